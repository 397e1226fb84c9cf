package ask_test

import (
	"math"
	"slices"
	"strings"
	"testing"

	"cloak/api"
	"cloak/ask"
)

var reserved = []string{"question", "and", "or", "not", "at", "least", "of", "in"}

// P5.1
func TestValidName(t *testing.T) {
	n20 := strings.Repeat("n", api.MaxName)
	for _, s := range []string{"x.a", "X.Y", "x_1.a", "x.a_", "id.age", "a0.b9", n20 + "." + n20, "questions.an", "In.OR", "n.ot", "at_.least_"} {
		if !ask.ValidName(s) {
			t.Error(s)
		}
	}
	for _, s := range []string{"", ".", "..", "x", "x.", ".a", "x.a.", ".x.a", "x..a", "x.a.b", "x .a", "x. a", " x.a", "x.a ", "1x.a", "x.1", "_x.a", "x._a", "x-a", "x,a", "x.a-b", "x.é", "é.x", "x.a\x00", "x.a#", n20 + "n." + n20, n20 + "." + n20 + "n", strings.Repeat("n", 1<<20)} {
		if ask.ValidName(s) {
			t.Errorf("%.40q", s)
		}
	}
	for _, s := range reserved {
		if ask.ValidName("x."+s) || ask.ValidName(s+".x") || ask.ValidName(s+"."+s) || ask.ValidName(s) {
			t.Error(s)
		}
		if !ask.ValidName("x."+s+"s") || !ask.ValidName(strings.ToUpper(s)+".x") {
			t.Error(s, "is a part of the name only")
		}
	}
}

// P5.1: each byte at each position.
func TestValidNameBytes(t *testing.T) {
	for c := range 256 {
		b := string([]byte{byte(c)})
		letter := strings.Contains("abcdefghijklmnopqrstuvwxyzABCDEFGHIJKLMNOPQRSTUVWXYZ", b)
		later := letter || strings.Contains("0123456789_", b)
		for s, want := range map[string]bool{b + ".a": letter, "x." + b: letter, "x" + b + ".a": later, "x.y" + b: later, "x" + b + "a": b == "."} {
			if ask.ValidName(s) != want {
				t.Errorf("%q", s)
			}
		}
	}
}

// P5.1
func TestValidPred(t *testing.T) {
	a := atom("x.a", "x.b", 3)
	for i, p := range []api.Pred{
		a, {}, atom("x.a", "", 0), atom("", "x.a", 0), atom("", "", 7), atom("x.a", "x.a", -1), atom("x.a", "", api.MaxNumber-1), atom("x.a", "", -api.MaxNumber),
		{Left: "x.a", Kids: []api.Pred{}}, {Left: "x.a", Kids: wide(3)[:0]},
		all(a, a), some(a, a), least(1, a), least(1, a, a), least(2, a, a), least(3, wide(3)...), all(a, some(a, least(1, a)), a),
		nested(api.PrAll, 12), nested(api.PrSome, 12), nested(api.PrLeast, 12), all(a, nested(api.PrLeast, 11)),
		all(wide(99)...), some(wide(99)...), least(1, wide(99)...), least(99, wide(99)...), all(some(wide(49)...), some(wide(48)...)),
	} {
		if !ask.ValidPred(p) {
			t.Error(i, p)
		}
	}
	for i, p := range notPreds() {
		if ask.ValidPred(p) {
			t.Error(i, p.Kind, p.Left, p.Right, p.C, len(p.Kids))
		}
	}
}

// P5.1
func TestValidBinds(t *testing.T) {
	names := numbered(20)
	long := binds(names, make([]int, 20)...)
	for i, l := range [][]api.Bind{nil, {}, {{Name: "x.a"}}, {{Name: "x.a", Value: api.MaxValue}}, {{Name: "x.b", Value: 7}, {Name: "x.a", Value: 7}, {Name: "X.a", Value: 7}, {Name: "y.a", Value: 7}}, long} {
		if !ask.ValidBinds(l) {
			t.Error(i, l)
		}
	}
	for i, b := range []api.Bind{{}, {Name: "x"}, {Name: "x.in"}, {Name: "in.x"}, {Name: "x.a.b"}, {Name: "x.a", Value: -1}, {Name: "x.a", Value: api.MaxValue + 1}, {Name: "x.a", Value: math.MaxInt}, {Name: "x.a", Value: math.MinInt}, long[0], long[19], {Name: long[7].Name, Value: 9}} {
		for at := range 21 {
			l := slices.Insert(slices.Clone(long), at, b)
			if ask.ValidBinds(l) {
				t.Error(i, at, b)
			}
		}
	}
}
