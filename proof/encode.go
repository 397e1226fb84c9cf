package proof

import (
	"slices"

	"cloak/api"
	"cloak/base"
)

// Encode returns the encoding of a proof.
func Encode(p api.Proof) (string, bool) {
	if !slices.EqualFunc(p.Dares, p.Answers, func(dares []int, answers [][]int) bool { return len(dares) == len(answers) }) {
		return "", false
	}
	l := []int{len(p.Dares)}
	for i, dares := range p.Dares {
		l = append(l, len(dares))
		for k, d := range dares {
			l = append(l, d, len(p.Answers[i][k]))
			l = append(l, p.Answers[i][k]...)
		}
	}
	return base.Nums(l), true
}

// Decode returns the proof that a string encodes.
func Decode(s string) (api.Proof, bool) {
	r := base.OpenReader(s)
	l := &numbers{rest: r.Nums()}
	if !r.Done() {
		return api.Proof{}, false
	}
	var p api.Proof
	for range l.count() {
		var dares []int
		var answers [][]int
		for range l.count() {
			dares = append(dares, l.next())
			answers = append(answers, l.list())
		}
		p.Dares = append(p.Dares, dares)
		p.Answers = append(p.Answers, answers)
	}
	if l.failed || len(l.rest) > 0 {
		return api.Proof{}, false
	}
	return p, true
}

// numbers are the numbers of an encoding that have not been read yet.
type numbers struct {
	rest   []int
	failed bool
}

// next reads one number.
func (l *numbers) next() int {
	if len(l.rest) == 0 {
		l.failed = true
		return 0
	}
	n := l.rest[0]
	l.rest = l.rest[1:]
	return n
}

// count reads how many things follow. Each of them takes at least one number, so that a count that is greater than what is left is wrong.
func (l *numbers) count() int {
	n := l.next()
	if n < 0 || n > len(l.rest) {
		l.failed = true
		return 0
	}
	return n
}

// list reads a count, and as many numbers.
func (l *numbers) list() []int {
	n := l.count()
	read := slices.Clone(l.rest[:n])
	l.rest = l.rest[n:]
	return read
}
