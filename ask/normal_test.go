package ask_test

import (
	"math/bits"
	"slices"
	"testing"

	"cloak/api"
	"cloak/ask"
)

func one(atoms ...api.Pred) api.Choice { return api.Choice{Need: 1, Atoms: atoms} }

func equalChoices(a, b []api.Choice) bool {
	return slices.EqualFunc(a, b, func(x, y api.Choice) bool { return x.Need == y.Need && equalLists(x.Atoms, y.Atoms) })
}

// P5.6
func TestNormal(t *testing.T) {
	a, b, c, d := atom("x.a", "", 1), atom("x.b", "", 2), atom("x.c", "", 5), atom("x.d", "", 9)
	yes, no, notA := atom("x.z", "x.z", 0), atom("", "", -1), atom("", "x.a", -2)
	for i, x := range []struct {
		p    api.Pred
		want []api.Choice
	}{
		{a, []api.Choice{one(a)}},
		{some(b, a), []api.Choice{one(a, b)}},
		{some(b, a, b, a), []api.Choice{one(a, b)}},
		{all(b, a), []api.Choice{one(b), one(a)}},
		{all(b, all(a, all(d, c)), b), []api.Choice{one(b), one(a), one(d), one(c), one(b)}},
		{least(2, c, a, b), []api.Choice{{Need: 2, Atoms: []api.Pred{c, a, b}}}},
		{least(1, c, a), []api.Choice{{Need: 1, Atoms: []api.Pred{c, a}}}},
		{least(2, c, a), []api.Choice{{Need: 2, Atoms: []api.Pred{c, a}}}},
		{least(1, c), []api.Choice{one(c)}},
		{least(1, notA, a), []api.Choice{one(notA, a)}},
		{all(a, least(2, a, b, c)), []api.Choice{one(a), {Need: 2, Atoms: []api.Pred{a, b, c}}}},
		{some(all(a, b), c), []api.Choice{one(a, c), one(b, c)}},
		{some(c, all(b, a)), []api.Choice{one(a, c), one(b, c)}},
		{all(some(a, b), all(a, least(1, c))), []api.Choice{one(a, b), one(a), one(c)}},
		{some(a, all(a, b)), []api.Choice{one(a)}},
		{some(all(a, b), all(a, c)), []api.Choice{one(a), one(b, c)}},
		{some(all(d, c), all(b, a)), []api.Choice{one(a, c), one(a, d), one(b, c), one(b, d)}},
		// An atom and its negation are independent in a clause.
		{some(a, notA), []api.Choice{one(notA, a)}},
		{some(all(a, notA), b), []api.Choice{one(notA, b), one(a, b)}},
		// PrLeast that is not of different atoms that are not constant.
		{least(2, a, b, a), []api.Choice{one(a)}},
		{least(3, a, b, a), []api.Choice{one(a), one(b)}},
		{least(1, a, b, a), []api.Choice{one(a, b)}},
		{least(2, b, yes, a), []api.Choice{one(a, b)}},
		{least(2, b, no, a), []api.Choice{one(a), one(b)}},
		{least(2, a, all(b, c), d), []api.Choice{one(a, b), one(a, c), one(a, d), one(b, d), one(c, d)}},
		{least(2, c, b, least(1, a)), []api.Choice{one(a, b), one(a, c), one(b, c)}},
		{least(1, least(2, c, b, a)), []api.Choice{one(a, b), one(a, c), one(b, c)}},
		{some(least(2, c, b, a), d), []api.Choice{one(a, b, d), one(a, c, d), one(b, c, d)}},
		// Constant atoms keep their truth. What is always true has no clauses; what is never true has the empty one.
		{yes, nil},
		{no, []api.Choice{one()}},
		{all(a, yes), []api.Choice{one(a)}},
		{all(a, no), []api.Choice{one(a), one()}},
		{some(a, yes), nil},
		{some(a, no), []api.Choice{one(a)}},
		{some(all(a, no), no), []api.Choice{one()}},
		{some(all(a, yes), no), []api.Choice{one(a)}},
		{least(1, yes), nil},
		{least(1, no), []api.Choice{one()}},
		{least(2, a, yes, yes), nil},
		{least(2, a, no, no), []api.Choice{one()}},
	} {
		if l, e := ask.Normal(x.p); !equalChoices(l, x.want) || e != api.OK {
			t.Error(i, text(x.p), l, e)
		}
	}
}

// clauses returns the prime clauses of a predicate by their definition, from all truth values of its atoms, in their order.
func clauses(p api.Pred) []api.Choice {
	atoms := variables(p)
	var models []int // the sets of true atoms with which the predicate is true
	for set := range 1 << len(atoms) {
		if holds(p, atoms, set) {
			models = append(models, set)
		}
	}
	isClause := func(set int) bool {
		return !slices.ContainsFunc(models, func(m int) bool { return m&set == 0 })
	}
	var l []api.Choice
	for set := range 1 << len(atoms) {
		prime := isClause(set)
		for part := range set {
			prime = prime && (part&set != part || !isClause(part))
		}
		if prime {
			choice := api.Choice{Need: 1}
			for i, a := range atoms {
				if set>>i&1 > 0 {
					choice.Atoms = append(choice.Atoms, a)
				}
			}
			l = append(l, choice)
		}
	}
	slices.SortFunc(l, func(x, y api.Choice) int { return slices.CompareFunc(x.Atoms, y.Atoms, order) })
	return l
}

// holds returns the truth of a predicate if those of the atoms that are in a set are true.
func holds(p api.Pred, atoms []api.Pred, set int) bool {
	if p.Kind == api.PrAtom {
		if p.Left == p.Right {
			return p.C >= 0
		}
		i, _ := slices.BinarySearchFunc(atoms, p, order)
		return set>>i&1 > 0
	}
	count := 0
	for _, kid := range p.Kids {
		if holds(kid, atoms, set) {
			count++
		}
	}
	return count >= map[int]int{api.PrAll: len(p.Kids), api.PrSome: 1, api.PrLeast: p.C}[p.Kind]
}

// normal returns the normal form, by the definition.
func normal(p api.Pred) []api.Choice {
	if p.Kind == api.PrAll {
		var l []api.Choice
		for _, kid := range p.Kids {
			l = append(l, normal(kid)...)
		}
		return l
	}
	if p.Kind == api.PrLeast && len(variables(p.Kids...)) == len(p.Kids) && !slices.ContainsFunc(p.Kids, func(k api.Pred) bool { return k.Kind != api.PrAtom }) {
		return []api.Choice{{Need: p.C, Atoms: p.Kids}}
	}
	return clauses(p)
}

// P5.6, P5.16: random predicates. The choices are those of the definition, and are met if and only if the predicate is true.
func TestNormalRandom(t *testing.T) {
	names := []string{"x.a", "x.b", "x.c"}
	r := random(names, -3, 3, 7)
	full := 0
	for i := range 1500 {
		r.atoms = 7 + i%3*5
		p := r.fresh().pred(1 + i%4)
		if i%5 == 0 {
			p = all(p, r.pred(3), some(r.pred(3), r.pred(3), r.pred(4)))
		}
		l, e := ask.Normal(p)
		if len(variables(p)) > api.MaxAtoms || len(normal(p)) > api.MaxParts {
			full++
			if len(l) > 0 || e != api.ErrFull {
				t.Fatal(text(p), len(l), e)
			}
			continue
		}
		if !equalChoices(l, normal(p)) || e != api.OK {
			t.Fatal(text(p), l, normal(p), e)
		}
		if i%10 > 0 {
			continue
		}
		for _, values := range assignments(3, 4) {
			if met, e := ask.Meets(l, binds(names, values...)); met != isTrue(p, names, values) || e != api.OK {
				t.Fatal(text(p), values, met, e)
			}
		}
	}
	if full == 0 || full > 1000 {
		t.Error(full)
	}
}

// P5.6, P5.16: all predicates that are PrLeast with all thresholds of all sets of conjunctions of three atoms, and of the atoms.
func TestNormalThresholds(t *testing.T) {
	names := []string{"x.a", "x.b", "x.c"}
	var parts []api.Pred
	for set := 1; set < 8; set++ {
		p := all()
		for i, name := range names {
			if set>>i&1 > 0 {
				p.Kids = append(p.Kids, atom(name, "", 0))
			}
		}
		if len(p.Kids) == 1 {
			p = p.Kids[0]
		}
		parts = append(parts, p)
	}
	for set := 1; set < 128; set++ {
		for c := 1; c <= bits.OnesCount(uint(set)); c++ {
			p := least(c)
			for i, part := range parts {
				if set>>i&1 > 0 {
					p.Kids = append(p.Kids, part)
				}
			}
			l, e := ask.Normal(p)
			if !equalChoices(l, normal(p)) || e != api.OK {
				t.Fatal(text(p), l, e)
			}
			for _, values := range assignments(3, 1) {
				if met, e := ask.Meets(l, binds(names, values...)); met != isTrue(p, names, values) || e != api.OK {
					t.Fatal(text(p), values, met, e)
				}
			}
		}
	}
}

// P5.6: the limits of atoms and of choices.
func TestNormalErrors(t *testing.T) {
	for i, p := range notPreds() {
		if l, e := ask.Normal(p); len(l) > 0 || e != api.ErrArg {
			t.Error(i, l, e)
		}
	}
	constants := []api.Pred{atom("", "", 3), atom("x.a", "x.a", 4), atom("x.b", "x.b", -3), atom("x.q", "x.q", 0)}
	for i, p := range []api.Pred{least(3, wide(8)...), some(wide(8)...), all(wide(8)...), some(slices.Concat(wide(8), constants, wide(8))...), all(some(wide(5)...), some(wide(8)[3:]...)), pred(t, "x.a in { 1, 3, 5, 7 }"), pred(t, "x.a != 1 and x.a != 3 and x.b != 5 and x.b != 7")} {
		if _, e := ask.Normal(p); e != api.OK {
			t.Error(i, e)
		}
	}
	for i, p := range []api.Pred{least(3, wide(9)...), least(1, wide(99)...), some(wide(9)...), all(wide(9)...), all(some(wide(5)...), some(wide(9)[4:]...)), some(slices.Concat(wide(9), constants)...), pred(t, "x.a in { 1, 3, 5, 7, 9 }"), some(append(wide(8), atom("", "x.a", -1))...), all(append(wide(8), atom("", "x.a", -1))...)} {
		if l, e := ask.Normal(p); len(l) > 0 || e != api.ErrFull {
			t.Error(i, l, e)
		}
	}
	// 16 choices of the same 8 atoms, and some more choices.
	w := wide(8)
	many := some(all(w[:4]...), all(w[4:]...))
	for n := range 8 {
		p := all(slices.Concat(slices.Repeat([]api.Pred{many}, 6), w[:n])...)
		l, e := ask.Normal(p)
		if n <= 4 && (len(l) != 96+n || e != api.OK) || n > 4 && (len(l) > 0 || e != api.ErrFull) {
			t.Error(n, len(l), e)
		}
	}
	// As many conjuncts as possible, with one choice each.
	if l, e := ask.Normal(all(slices.Repeat(w[:1], 99)...)); len(l) != 99 || e != api.OK {
		t.Error(len(l), e)
	}
	// The greatest number of prime clauses of one conjunct, and two of them.
	half := func(c int) api.Pred { return some(least(c, w...), least(c, w...)) }
	if l, e := ask.Normal(half(5)); len(l) != 70 || e != api.OK {
		t.Error(len(l), e)
	}
	if l, e := ask.Normal(all(half(5), half(5))); len(l) > 0 || e != api.ErrFull {
		t.Error(len(l), e)
	}
	if l, e := ask.Normal(all(half(5), least(5, w...))); len(l) != 71 || e != api.OK || l[70].Need != 5 {
		t.Error(len(l), e)
	}
	if _, e := ask.Normal(all(some(wide(9)...), api.Pred{Kind: 7})); e != api.ErrArg {
		t.Error(e)
	}
}
