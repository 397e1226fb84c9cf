package ask_test

import (
	"slices"
	"testing"

	"cloak/api"
	"cloak/ask"
)

// P5.4
func TestNamesAndAtoms(t *testing.T) {
	a, b := atom("x.a", "", 3), atom("x.a", "x.b", -1)
	for i, x := range []struct {
		p     api.Pred
		names []string
		atoms []api.Pred
	}{
		{api.Pred{}, nil, []api.Pred{{}}},
		{a, []string{"x.a"}, []api.Pred{a}},
		{atom("", "x.a", 3), []string{"x.a"}, []api.Pred{atom("", "x.a", 3)}},
		{atom("x.b", "x.a", 3), []string{"x.a", "x.b"}, []api.Pred{atom("x.b", "x.a", 3)}},
		{atom("x.b", "x.b", 3), []string{"x.b"}, []api.Pred{atom("x.b", "x.b", 3)}},
		{all(b, a, some(b, a), least(1, b)), []string{"x.a", "x.b"}, []api.Pred{a, b}},
		// By Left, then by Right, then by C, and byte by byte.
		{
			some(atom("x_.a", "", 0), atom("x1.a", "", 0), atom("x.b", "", 0), atom("x.a1", "", 0), atom("x.a", "", 0), atom("X.z", "", 0), atom("", "", 0)),
			[]string{"X.z", "x.a", "x.a1", "x.b", "x1.a", "x_.a"},
			[]api.Pred{{}, atom("X.z", "", 0), atom("x.a", "", 0), atom("x.a1", "", 0), atom("x.b", "", 0), atom("x1.a", "", 0), atom("x_.a", "", 0)},
		},
		{
			least(4, atom("x.b", "x.a", -9), atom("x.a", "x.c", -9), atom("x.a", "x.b", 10), atom("x.a", "x.b", 9), atom("x.a", "x.b", -10), atom("x.a", "x.b", -9), atom("x.a", "", 99), atom("", "x.c", 99)),
			[]string{"x.a", "x.b", "x.c"},
			[]api.Pred{atom("", "x.c", 99), atom("x.a", "", 99), atom("x.a", "x.b", -10), atom("x.a", "x.b", -9), atom("x.a", "x.b", 9), atom("x.a", "x.b", 10), atom("x.a", "x.c", -9), atom("x.b", "x.a", -9)},
		},
		// An atom and its negation are different atoms.
		{all(a, atom("", "x.a", -4)), []string{"x.a"}, []api.Pred{atom("", "x.a", -4), a}},
	} {
		if names := ask.Names(x.p); !slices.Equal(names, x.names) {
			t.Error(i, names)
		}
		if atoms := ask.Atoms(x.p); !equalLists(atoms, x.atoms) {
			t.Error(i, atoms)
		}
	}
	if n := len(ask.Atoms(least(1, wide(99)...))); n != 99 {
		t.Error(n)
	}
	r := random([]string{"x.a", "x.b", "w.z", "x.a_", "x_.a"}, -2, 2, 0)
	for range 500 {
		if p := r.pred(4); !slices.Equal(ask.Names(p), namesOf(p)) || !equalLists(ask.Atoms(p), atomsOf(p)) {
			t.Fatal(text(p), ask.Names(p), ask.Atoms(p))
		}
	}
}

// P5.4
func TestNegate(t *testing.T) {
	a, b := atom("x.a", "", 3), atom("x.a", "x.b", -1)
	notA, notB := atom("", "x.a", -4), atom("x.b", "x.a", 0)
	for i, x := range []struct{ p, want api.Pred }{
		{a, notA},
		{b, notB},
		{api.Pred{}, atom("", "", -1)},
		{atom("x.a", "x.a", 0), atom("x.a", "x.a", -1)},
		{atom("x.a", "", -api.MaxNumber), atom("", "x.a", api.MaxNumber-1)},
		{atom("x.a", "", api.MaxNumber-1), atom("", "x.a", -api.MaxNumber)},
		{all(a, b), some(notA, notB)},
		{some(a, b, a), all(notA, notB, notA)},
		{least(1, a), least(1, notA)},
		{least(1, a, b, a), least(3, notA, notB, notA)},
		{least(2, a, b, a), least(2, notA, notB, notA)},
		{least(3, a, b, a), least(1, notA, notB, notA)},
		{all(some(a, b), least(1, all(a, a), b)), some(all(notA, notB), least(2, some(notA, notA), notB))},
	} {
		if got := ask.Negate(x.p); !equal(got, x.want) {
			t.Error(i, got)
		}
	}
	for i, p := range notPreds() {
		if got := ask.Negate(p); !equal(got, api.Pred{}) {
			t.Error(i, got)
		}
		if names, atoms := ask.Names(p), ask.Atoms(p); len(names) > 0 || len(atoms) > 0 {
			t.Error(i, names, atoms)
		}
	}
}

// P5.15
func TestNegation(t *testing.T) {
	names := []string{"x.a", "x.b"}
	r := random(names, -4, 4, 0)
	for i := range 500 {
		p := r.pred(1 + i%5)
		if !ask.ValidPred(p) {
			continue
		}
		q := ask.Negate(p)
		if !equal(q, opposite(p)) || !ask.ValidPred(q) || !equal(ask.Negate(q), p) {
			t.Fatal(text(p), text(q))
		}
		for _, values := range assignments(2, 4) {
			if isTrue(p, names, values) == isTrue(q, names, values) {
				t.Fatal(text(p), text(q), values)
			}
			l := binds(names, values...)
			yes, e := ask.Holds(p, l)
			no, f := ask.Holds(q, l)
			if yes == no || e != api.OK || f != api.OK {
				t.Fatal(text(p), text(q), values)
			}
		}
	}
}
