package ask_test

import (
	"math"
	"slices"
	"testing"

	"cloak/api"
	"cloak/ask"
)

// P5.12
func TestDiscloses(t *testing.T) {
	one, two := []string{"x.a"}, []string{"x.a", "x.b"}
	for _, x := range []struct {
		p      string
		labels []string
		most   int
		a, b   []api.Bind
	}{
		{"x.a >= 18 and x.a <= 64", []string{"x.a >= 18"}, 100, binds(one, 18), binds(one, 65)},
		{"x.a >= 18 and x.a <= 64", []string{"x.a >= 18"}, 64, nil, nil},
		{"x.a >= 18 and x.a <= 64", []string{"x.a > 64", "x.a < 18"}, 100, nil, nil},
		{"x.a >= 18 and x.a <= 64", []string{"x.a > 64 or x.a < 18"}, 100, nil, nil},
		{"x.a >= 18 and x.a <= 64", []string{"x.a > 64 or x.a < 17"}, 100, binds(one, 17), binds(one, 18)},
		{"x.a >= 18", []string{"x.a >= 18"}, api.MaxValue, nil, nil},
		{"x.a >= 18", []string{"not x.a >= 18"}, api.MaxValue, nil, nil},
		{"x.a >= 18", []string{"x.a >= 19"}, api.MaxValue, binds(one, 0), binds(one, 18)},
		{"x.a >= 18", nil, api.MaxValue, binds(one, 0), binds(one, 18)},
		{"x.a < 18", nil, api.MaxValue, binds(one, 0), binds(one, 18)},
		{"x.a >= 18", nil, 17, nil, nil},
		{"x.a >= 18 or x.b < 3", []string{"x.b <= 2", "not x.a < 18"}, api.MaxValue, nil, nil},
		{"x.a >= 18 or x.b < 3", []string{"x.b <= 2"}, api.MaxValue, binds(two, 0, 3), binds(two, 18, 3)},
		{"x.a < x.b", nil, 5, binds(two, 0, 0), binds(two, 0, 1)},
		{"x.a < x.b", []string{"x.a = x.b"}, 5, binds(two, 0, 1), binds(two, 1, 0)},
		{"x.a < x.b", []string{"x.a = x.b", "x.b < x.a"}, 5, nil, nil},
		{"1 <= 2", nil, 5, nil, nil},
		{"1 <= 2", []string{"x.a < 3"}, 5, nil, nil},
		{"x.a <= x.a", nil, 5, nil, nil},
		{"x.a < 2", []string{"x.a >= 2", "x.b < 1"}, 5, nil, nil},
		{"x.a < 2", []string{"x.b < 1", "x.b < 2", "x.a >= 2 and x.b < 1"}, 5, binds(two, 0, 1), binds(two, 2, 1)},
		{"x.b >= 3", []string{"x.a >= 1"}, 5, binds(two, 0, 0), binds(two, 0, 3)},
		{"x.b < 3 or x.a >= 2", []string{"x.b >= 3 and x.a < 2 or x.a >= 4"}, 5, binds(two, 0, 3), binds(two, 4, 0)},
		{"x.b < 3 or x.a >= 2", []string{"x.b >= 3 and x.a < 2"}, 5, nil, nil},
		{"x.b < 3 or x.a >= 2", []string{"x.a >= 4"}, 5, binds(two, 0, 0), binds(two, 0, 3)},
	} {
		a, b, more, e := ask.Discloses(pred(t, x.p), preds(t, x.labels...), x.most)
		if !slices.Equal(a, x.a) || !slices.Equal(b, x.b) || more != (x.a != nil) || e != api.OK {
			t.Error(x.p, x.labels, a, b, more, e)
		}
	}
	// Without names there is one assignment only.
	if a, b, more, e := ask.Discloses(api.Pred{}, []api.Pred{atom("", "", -1)}, 7); len(a) > 0 || len(b) > 0 || more || e != api.OK {
		t.Error(a, b, more, e)
	}
}

// P5.12, P5.18, P5.19: random predicates and labels, against all pairs of assignments.
func TestDisclosesRandom(t *testing.T) {
	results := map[api.Errno]int{}
	disclosed := 0
	for n := range 4 {
		r := random(numbered(n), -3, 2, 5)
		for i := range 400 {
			r.atoms = 4 + i%3*4
			p := r.fresh().pred(1 + i%4)
			var labels []api.Pred
			for range i % 5 {
				labels = append(labels, r.pred(1+r.IntN(3)))
			}
			most := i % 4
			a, b, more, e := ask.Discloses(p, labels, most)
			results[e]++
			list := append([]api.Pred{p}, labels...)
			if comparisons(list...) > api.MaxAtoms {
				if len(a) > 0 || len(b) > 0 || more || e != api.ErrFull {
					t.Fatal(text(p), labels, a, b, more, e)
				}
				continue
			}
			wantA, wantB, want := disclosure(p, labels, namesOf(list...), most)
			if !slices.Equal(a, wantA) || !slices.Equal(b, wantB) || more != want || e != api.OK {
				t.Fatal(text(p), labels, most, a, b, more, e, wantA, wantB)
			}
			if more {
				disclosed++
			}
		}
	}
	if results[api.ErrFull] == 0 || results[api.OK] < 1000 || disclosed < 100 || disclosed > results[api.OK]-100 {
		t.Error(results, disclosed)
	}
}

// disclosure returns what Discloses returns, by the definition.
func disclosure(p api.Pred, labels []api.Pred, names []string, most int) (a, b []api.Bind, more bool) {
	list := assignments(len(names), most)
	for _, x := range list {
		for _, y := range list {
			alike := !slices.ContainsFunc(labels, func(l api.Pred) bool { return isTrue(l, names, x) != isTrue(l, names, y) })
			if alike && isTrue(p, names, x) != isTrue(p, names, y) {
				return binds(names, x...), binds(names, y...), true
			}
		}
	}
	return nil, nil, false
}

// P5.19: a label covers itself, its negation, and what is made of labels; it does not matter in what order they are, and how often.
func TestLabels(t *testing.T) {
	names := []string{"x.a", "x.b", "x.c"}
	r := random(names, -20, 20, 3)
	for range 300 {
		l := []api.Pred{r.fresh().pred(3), r.pred(2), r.pred(2)}
		made := least(1+r.IntN(3), some(l[0], opposite(l[1])), all(opposite(l[0]), l[2]), l[1])
		for _, p := range []api.Pred{l[0], opposite(l[1]), made} {
			if !ask.ValidPred(p) {
				continue
			}
			if a, b, more, e := ask.Discloses(p, l, 40); len(a) > 0 || len(b) > 0 || more || e != api.OK {
				t.Fatal(text(p), a, b, more, e)
			}
			x, y, more, _ := ask.Discloses(p, l[:2], 40)
			again, other, still, e := ask.Discloses(p, []api.Pred{l[1], opposite(l[0]), l[1], l[0]}, 40)
			if more != still || e != api.OK || !slices.Equal(x, again) || !slices.Equal(y, other) {
				t.Fatal(text(p), x, y, again, other)
			}
		}
	}
}

// P5.12
func TestDisclosesErrors(t *testing.T) {
	p, nine := pred(t, "x.a < 3"), some(wide(9)...)
	check := func(p api.Pred, labels []api.Pred, most int, want api.Errno) {
		t.Helper()
		if a, b, more, e := ask.Discloses(p, labels, most); e != want || want != api.OK && (len(a) > 0 || len(b) > 0 || more) {
			t.Error(most, a, b, more, e)
		}
	}
	for _, bad := range notPreds() {
		check(bad, nil, 9, api.ErrArg)
		check(bad, []api.Pred{p, nine}, 9, api.ErrArg)
		check(p, []api.Pred{bad}, 9, api.ErrArg)
		check(nine, []api.Pred{p, bad, p}, 9, api.ErrArg)
	}
	for _, most := range []int{-1, api.MaxValue + 1, math.MaxInt, math.MinInt} {
		check(p, nil, most, api.ErrArg)
		check(nine, nil, most, api.ErrArg)
	}
	check(p, slices.Repeat([]api.Pred{p}, api.MaxQuestions), 9, api.OK)
	check(p, slices.Repeat([]api.Pred{p}, api.MaxQuestions+1), 9, api.ErrArg)
	check(nine, slices.Repeat([]api.Pred{p}, api.MaxQuestions+1), 9, api.ErrArg)
	check(p, slices.Repeat([]api.Pred{nine}, 1<<16), 9, api.ErrArg)
	check(named(0, 16), nil, 9, api.OK)
	check(named(0, 8), []api.Pred{named(8, 8), named(3, 9)}, 9, api.OK)
	check(named(0, 8), []api.Pred{named(8, 8), named(8, 9)}, 9, api.ErrArg)
	check(named(0, 17), nil, 9, api.ErrArg)
	check(api.Pred{}, []api.Pred{named(0, 17)}, 9, api.ErrArg)
	check(nine, []api.Pred{named(0, 16)}, 9, api.ErrArg)

	eight := some(wide(8)...)
	check(eight, []api.Pred{opposite(eight), atom("x.b", "x.b", 3)}, 9, api.OK)
	check(nine, nil, 9, api.ErrFull)
	check(api.Pred{}, []api.Pred{nine}, 9, api.ErrFull)
	check(eight, []api.Pred{p, atom("x.b", "", 3)}, 9, api.ErrFull)
	check(some(wide(4)...), []api.Pred{atom("x.b", "", 1), atom("x.b", "", 2), atom("x.b", "", 3), atom("x.b", "", 4)}, 9, api.OK)
	check(some(wide(4)...), []api.Pred{atom("x.b", "", 1), atom("x.b", "", 2), atom("x.b", "", 3), atom("x.b", "", 4), atom("x.b", "", 5)}, 9, api.ErrFull)

	// The last one of very many labels counts.
	labels := slices.Repeat([]api.Pred{atom("x.a", "", 9)}, api.MaxQuestions)
	check(p, labels, 9, api.OK)
	if _, _, more, _ := ask.Discloses(p, labels, 9); !more {
		t.Error("not covered")
	}
	labels[api.MaxQuestions-1] = p
	if _, _, more, _ := ask.Discloses(p, labels, 9); more {
		t.Error("covered by the last label")
	}
}
