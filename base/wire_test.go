package base_test

import (
	"math"
	"slices"
	"strings"
	"testing"

	"cloak/base"
)

// ints are the numbers at which the encodings change.
var ints = []int{0, 1, 9, 10, 99, 100, 300, math.MaxInt - 1, math.MaxInt, -1, -9, -10, math.MinInt + 1, math.MinInt}

// texts contain the bytes of other encodings.
var texts = []string{"", "a", "a,b", "1:a,", "0[]", "2[0;-1;]", "-7;", "\x00\xff\n", "0123456789", strings.Repeat(",", 100)}

// P1.1
func TestEncodings(t *testing.T) {
	for _, c := range []struct{ got, want string }{
		{base.Num(0), "0;"},
		{base.Num(300), "300;"},
		{base.Num(math.MaxInt), "9223372036854775807;"},
		{base.Num(-1), ""},
		{base.Num(math.MinInt), ""},
		{base.Int(0), "0;"},
		{base.Int(42), "42;"},
		{base.Int(-7), "-7;"},
		{base.Int(math.MinInt), "-9223372036854775808;"},
		{base.Text(""), "0:,"},
		{base.Text("a,b"), "3:a,b,"},
		{base.Text("\x00\xff"), "2:\x00\xff,"},
		{base.Text("é"), "2:é,"},
		{base.Text("0123456789"), "10:0123456789,"},
		{base.Nums(nil), "0[]"},
		{base.Nums([]int{}), "0[]"},
		{base.Nums([]int{1, -1}), "2[1;-1;]"},
		{base.Nums(make([]int, 10)), "10[0;0;0;0;0;0;0;0;0;0;]"},
		{base.Texts(nil), "0[]"},
		{base.Texts([]string{"", "x,"}), "2[0:,2:x,,]"},
	} {
		if c.got != c.want {
			t.Errorf("got %q, want %q", c.got, c.want)
		}
	}
}

// P1.2
func TestReader(t *testing.T) {
	r := base.OpenReader("12;-12;0;3:a,b,2[1;-1;]0[]1[0:,]0[]rest;")
	if n := r.Num(); n != 12 {
		t.Error("Num", n)
	}
	if n := r.Int(); n != -12 {
		t.Error("Int", n)
	}
	if n := r.Int(); n != 0 {
		t.Error("Int", n)
	}
	if s := r.Text(); s != "a,b" {
		t.Error("Text", s)
	}
	if l := r.Nums(); !slices.Equal(l, []int{1, -1}) {
		t.Error("Nums", l)
	}
	if l := r.Nums(); len(l) != 0 {
		t.Error("Nums", l)
	}
	if l := r.Texts(); !slices.Equal(l, []string{""}) {
		t.Error("Texts", l)
	}
	if l := r.Texts(); len(l) != 0 {
		t.Error("Texts", l)
	}
	if r.Left() != 5 || r.Done() {
		t.Error("before the rest:", r.Left(), r.Done())
	}
	if s := r.Rest(); s != "rest;" || r.Left() != 0 || !r.Done() || r.Rest() != "" || !r.Done() {
		t.Error("Rest", s, r.Left(), r.Done())
	}
}

// P1.2: an empty reader is done, until a read fails.
func TestReaderOfNothing(t *testing.T) {
	r := base.OpenReader("")
	if !r.Done() || r.Left() != 0 || r.Rest() != "" || !r.Done() {
		t.Error("the reader of the empty string is not done")
	}
	r.Num()
	if r.Done() {
		t.Error("the reader is done although it has failed")
	}
}

// failed reports whether a reader behaves as one that has failed.
func failed(r *base.Reader) bool {
	return r.Left() == 0 && !r.Done() && r.Rest() == "" && !r.Done() &&
		r.Num() == 0 && r.Int() == 0 && r.Text() == "" && len(r.Nums()) == 0 && len(r.Texts()) == 0 &&
		r.Left() == 0 && !r.Done()
}

var notDigits = []string{"", "-", "+1", "-0", "00", "01", "007", "-01", " 1", "1 ", "1_0", "0x1", "1.", "a", "9223372036854775808", "-9223372036854775809", "123456789012345678901234567890"}

// P1.2: what is not an encoding makes the reader fail, whatever stands behind it.
func TestReaderFails(t *testing.T) {
	const more = "1;1:a,1[1;]"
	check := func(kind, s string, zero func(r *base.Reader) bool) {
		r := base.OpenReader(s)
		if !zero(r) || !failed(r) {
			t.Errorf("%s of %q did not fail", kind, s)
		}
	}
	num := func(r *base.Reader) bool { return r.Num() == 0 }
	whole := func(r *base.Reader) bool { return r.Int() == 0 }
	text := func(r *base.Reader) bool { return r.Text() == "" }
	nums := func(r *base.Reader) bool { return len(r.Nums()) == 0 }
	list := func(r *base.Reader) bool { return len(r.Texts()) == 0 }
	for _, s := range notDigits {
		check("Num", s+";"+more, num)
		check("Int", s+";"+more, whole)
		check("Text", s+":a,"+more, text)
		check("Nums", s+"[1;]"+more, nums)
		check("Nums", "1["+s+";]"+more, nums)
		check("Texts", s+"[1:a,]"+more, list)
		check("Texts", "1["+s+":a,]"+more, list)
	}
	for _, s := range []string{"", "1", "1,", "1:", ";1;"} {
		check("Num", s, num)
		check("Int", s, whole)
	}
	check("Num", "-1;"+more, num)
	for _, s := range []string{"1", "1;", "0:", "0:;", "0,", "1:", "1:a", "1:a;", "1:ab,", "2:a,", "-1:a,", "9223372036854775807:a,"} {
		check("Text", s, text)
		check("Texts", "1["+s, list)
	}
	for _, s := range []string{"0", "0[", "0[;", "0:]", "1[]", "1[1;", "1[1;,", "1[1;2;]", "2[1;]", "-1[]", "-1[1;]", "9223372036854775807[1;]", "1[1:a,]"} {
		check("Nums", s, nums)
	}
	for _, s := range []string{"0", "0[", "1[]", "1[0:,", "1[0:,,", "1[0:,0:,]", "2[0:,]", "-1[0:,]", "9223372036854775807[0:,]", "1[1;]"} {
		check("Texts", s, list)
	}
}

// P1.2: a read that fails does not return what was read before, and leaves nothing to read.
func TestReaderFailsLater(t *testing.T) {
	r := base.OpenReader("1;01;2;")
	if r.Num() != 1 || r.Num() != 0 || !failed(r) {
		t.Error("a failed reader goes on")
	}
	r = base.OpenReader("3[1;2;x;]4;")
	if l := r.Nums(); len(l) != 0 || !failed(r) {
		t.Error("a part of a list was returned:", l)
	}
}

// P1.14: reading inverts writing.
func TestReadingInvertsWriting(t *testing.T) {
	for _, n := range ints {
		r := base.OpenReader(base.Int(n) + "x")
		if got := r.Int(); got != n || r.Rest() != "x" {
			t.Error("Int", n, got)
		}
		r = base.OpenReader(base.Num(n) + "x")
		if got := r.Num(); n >= 0 && (got != n || r.Rest() != "x") {
			t.Error("Num", n, got)
		}
	}
	for _, s := range texts {
		r := base.OpenReader(base.Text(s) + "x")
		if got := r.Text(); got != s || r.Rest() != "x" {
			t.Errorf("Text %q: %q", s, got)
		}
	}
	for i := range ints {
		r := base.OpenReader(base.Nums(ints[:i]) + "x")
		if got := r.Nums(); !slices.Equal(got, ints[:i]) || r.Rest() != "x" {
			t.Error("Nums", ints[:i], got)
		}
	}
	for i := range texts {
		r := base.OpenReader(base.Texts(texts[:i]) + "x")
		if got := r.Texts(); !slices.Equal(got, texts[:i]) || r.Rest() != "x" {
			t.Errorf("Texts %q: %q", texts[:i], got)
		}
	}
}

// again reads a value of a kind, and returns its encoding.
func again(r *base.Reader, kind int) string {
	switch kind {
	case 0:
		return base.Num(r.Num())
	case 1:
		return base.Int(r.Int())
	case 2:
		return base.Text(r.Text())
	case 3:
		return base.Nums(r.Nums())
	}
	return base.Texts(r.Texts())
}

// P1.14: of all short strings, a reader accepts only those that begin with the encoding of what it read, and no encoding is the beginning of another.
func TestOneEncoding(t *testing.T) {
	const bytes = "012-:;,[]"
	encodings := [5][]string{}
	var visit func(s string)
	visit = func(s string) {
		for kind := range encodings {
			r := base.OpenReader(s + "x")
			e := again(r, kind)
			if r.Left() == 0 {
				continue // failed: the x was not left
			}
			if s+"x" != e+r.Rest() {
				t.Errorf("kind %d: of %q, %q was read", kind, s, e)
			}
			if s == e {
				encodings[kind] = append(encodings[kind], s)
			}
		}
		if len(s) < 6 {
			for i := range len(bytes) {
				visit(s + bytes[i:i+1])
			}
		}
	}
	visit("")
	for kind, l := range encodings {
		if len(l) < 2 {
			t.Errorf("kind %d: only %d encodings", kind, len(l))
		}
		slices.Sort(l)
		for i := 1; i < len(l); i++ {
			if strings.HasPrefix(l[i], l[i-1]) {
				t.Errorf("kind %d: %q is a prefix of %q", kind, l[i-1], l[i])
			}
		}
	}
}

// P1.15
func TestNestedEncodings(t *testing.T) {
	inner := base.Texts(texts) + base.Nums(ints)
	outer := base.Text(inner) + base.Texts([]string{inner, base.Text(inner), "]"}) + base.Num(5)
	r := base.OpenReader(outer)
	if s := r.Text(); s != inner {
		t.Errorf("%q", s)
	}
	l := r.Texts()
	if !slices.Equal(l, []string{inner, base.Text(inner), "]"}) || r.Num() != 5 || !r.Done() {
		t.Fatalf("%q", l)
	}
	in := base.OpenReader(base.OpenReader(l[1]).Text())
	if !slices.Equal(in.Texts(), texts) || !slices.Equal(in.Nums(), ints) || !in.Done() {
		t.Error("the inner values are not the same")
	}
}

// P1.13, P3: arguments are unchanged, and bytes beyond the length of a list are not read.
func TestEncodingsLeaveArguments(t *testing.T) {
	nums := []int{1, 2, 3}
	words := []string{"a", "b", "c"}
	if base.Nums(nums[:2]) != "2[1;2;]" || base.Texts(words[:2]) != "2[1:a,1:b,]" {
		t.Error("more than the list was encoded")
	}
	if !slices.Equal(nums, []int{1, 2, 3}) || !slices.Equal(words, []string{"a", "b", "c"}) {
		t.Error("arguments were modified")
	}
}
