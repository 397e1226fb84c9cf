// Package base contains a canonical encoding, a simulated disk, a journal and a lexer (chapter 1): see shared/doc/01-base.md.
package base

import (
	"strconv"
	"strings"
)

// Num returns the encoding of a number, or the empty string for a negative one.
func Num(n int) string {
	if n < 0 {
		return ""
	}
	return Int(n)
}

// Int returns the encoding of an int.
func Int(n int) string { return strconv.Itoa(n) + ";" }

// Text returns the encoding of a string.
func Text(s string) string { return strconv.Itoa(len(s)) + ":" + s + "," }

// Nums returns the encoding of a list of ints.
func Nums(l []int) string { return writeList(l, Int) }

// Texts returns the encoding of a list of strings.
func Texts(l []string) string { return writeList(l, Text) }

// writeList returns the encoding of a list whose elements are encoded by one.
func writeList[T any](l []T, one func(T) string) string {
	var b strings.Builder
	b.WriteString(strconv.Itoa(len(l)))
	b.WriteByte('[')
	for _, v := range l {
		b.WriteString(one(v))
	}
	b.WriteByte(']')
	return b.String()
}

// canonical returns the int of which s is the decimal notation, and reports whether it is one.
// Printing the int again rejects each other notation: signs, leading zeros, and -0.
func canonical(s string) (int, bool) {
	n, err := strconv.Atoi(s)
	if err != nil || strconv.Itoa(n) != s {
		return 0, false
	}
	return n, true
}

// Reader reads values.
type Reader struct {
	rest   string // empty once the reader has failed, so that no later call finds an encoding
	failed bool
}

// OpenReader returns a reader of a string.
func OpenReader(s string) *Reader { return &Reader{rest: s} }

// fail makes this call and all later ones fail.
func (r *Reader) fail() {
	r.rest = ""
	r.failed = true
}

// digits reads an int and the byte that ends it.
func (r *Reader) digits(end byte) int {
	i := strings.IndexByte(r.rest, end)
	if i < 0 {
		r.fail()
		return 0
	}
	n, ok := canonical(r.rest[:i])
	if !ok {
		r.fail()
		return 0
	}
	r.rest = r.rest[i+1:]
	return n
}

// natural reads an int that is not negative and the byte that ends it.
func (r *Reader) natural(end byte) int {
	n := r.digits(end)
	if n < 0 {
		r.fail()
		return 0
	}
	return n
}

// closing reads the byte c that closes a value.
func (r *Reader) closing(c byte) {
	if r.rest == "" || r.rest[0] != c {
		r.fail()
		return
	}
	r.rest = r.rest[1:]
}

// Num reads a number.
func (r *Reader) Num() int { return r.natural(';') }

// Int reads an int.
func (r *Reader) Int() int { return r.digits(';') }

// Text reads a string.
func (r *Reader) Text() string {
	n := r.natural(':')
	if n > len(r.rest) {
		r.fail()
		return ""
	}
	s := r.rest[:n]
	r.rest = r.rest[n:]
	r.closing(',')
	if r.failed {
		return ""
	}
	return s
}

// Nums reads a list of ints.
func (r *Reader) Nums() []int { return readList(r, r.Int) }

// Texts reads a list of strings.
func (r *Reader) Texts() []string { return readList(r, r.Text) }

// readList reads a list whose elements are read by one.
// The length is not trusted: a list grows only as far as there are elements.
func readList[T any](r *Reader, one func() T) []T {
	var l []T
	for n := r.natural('['); n > 0 && !r.failed; n-- {
		l = append(l, one())
	}
	r.closing(']')
	if r.failed {
		return nil
	}
	return l
}

// Rest returns the bytes that have not been read, and moves to the end.
func (r *Reader) Rest() string {
	s := r.rest
	r.rest = ""
	return s
}

// Left returns the number of bytes that have not been read.
func (r *Reader) Left() int { return len(r.rest) }

// Done reports whether everything was read.
func (r *Reader) Done() bool { return !r.failed && r.rest == "" }
