package ask_test

import (
	"math"
	"slices"
	"testing"

	"cloak/api"
	"cloak/ask"
)

// first returns the first assignment that is good, as binds, and reports whether there is one.
func first(names []string, most int, good func(values []int) bool) ([]api.Bind, bool) {
	for _, values := range assignments(len(names), most) {
		if good(values) {
			return binds(names, values...), true
		}
	}
	return nil, false
}

// P5.9
func TestSat(t *testing.T) {
	two := []string{"x.a", "x.b"}
	for _, x := range []struct {
		text string
		most int
		want []int
	}{
		{"x.a >= x.b + 3 and x.b != 0", 9, []int{4, 1}},
		{"x.a >= x.b + 3 and x.b != 0", 3, nil},
		{"x.a in { 5..6 } or x.b > 2 and x.a > 1", 9, []int{2, 3}},
		{"x.a >= 1 or x.b >= 7", 9, []int{0, 7}},
		{"x.a >= 1 or x.b >= 7", 6, []int{1, 0}},
		{"x.a < x.b and x.b < x.a", api.MaxValue, nil},
		{"x.a + 65535 = x.b", api.MaxValue, []int{0, api.MaxValue}},
		{"x.a + 65535 < x.b", api.MaxValue, nil},
		{"x.b > 70000 or x.a > 3", api.MaxValue, []int{4, 0}},
		{"x.b < 1099511627776", 0, []int{0, 0}},
		{"1 <= 2", 9, []int{0, 0}},
		{"2 <= 1", 9, nil},
		{"x.a < x.a or x.b = 3", 9, []int{0, 3}},
		{"at least 2 of ( x.a >= 5, x.b >= 4, x.a <= 2 )", 9, []int{0, 4}},
		{"at least 2 of ( x.a >= 5, x.b >= 4, x.a <= 2 )", 4, []int{0, 4}},
		{"not ( x.a < 3 or x.b <= x.a + 1 )", 9, []int{3, 5}},
	} {
		l, ok, e := ask.Sat(pred(t, x.text), two, x.most)
		if !slices.Equal(l, binds(two, x.want...)) || ok != (x.want != nil) || e != api.OK {
			t.Error(x.text, l, ok, e)
		}
	}
	if l, ok, e := ask.Sat(api.Pred{}, nil, 5); len(l) > 0 || !ok || e != api.OK {
		t.Error(l, ok, e)
	}
	if l, ok, e := ask.Sat(atom("", "", -1), nil, 5); len(l) > 0 || ok || e != api.OK {
		t.Error(l, ok, e)
	}
	// Names that the predicate does not have are binds too.
	names := numbered(16)
	p := all(atom(names[3], names[5], -2), atom("", names[15], -9), atom(names[9], names[3], -1))
	l, ok, e := ask.Sat(p, names, 9)
	if !slices.Equal(l, binds(names, 0, 0, 0, 1, 0, 3, 0, 0, 0, 0, 0, 0, 0, 0, 0, 9)) || !ok || e != api.OK {
		t.Error(l, ok, e)
	}
	// As many comparisons as possible between as many names as possible.
	p = all()
	for i := range 8 {
		p.Kids = append(p.Kids, some(atom(names[2*i], names[2*i+1], -api.MaxValue), atom(names[2*i], names[2*i+1], -api.MaxValue)))
	}
	l, ok, e = ask.Sat(p, names, api.MaxValue)
	if !slices.Equal(l, binds(names, slices.Repeat([]int{0, api.MaxValue}, 8)...)) || !ok || e != api.OK {
		t.Error(l, ok, e)
	}
}

// P5.9, P5.10, P5.11, P5.18: random predicates, against all assignments.
func TestDecideRandom(t *testing.T) {
	for n := range 4 {
		names := numbered(n)
		r := random(names, -4, 3, 6)
		for i := range 500 {
			p, q := r.fresh().pred(1+i%4), r.pred(1+i%3)
			most := i % 5
			full := comparisons(p, q) > api.MaxAtoms
			if comparisons(p) <= api.MaxAtoms {
				checkOne(t, p, names, most)
			}
			used := namesOf(p, q)
			l, ok, e := ask.Implies(p, q, most)
			m, same, f := ask.Same(p, q, most)
			if full {
				if len(l) > 0 || ok || e != api.ErrFull || len(m) > 0 || same || f != api.ErrFull {
					t.Fatal(text(p), text(q), e, f)
				}
				continue
			}
			want, found := first(used, most, func(values []int) bool { return isTrue(p, used, values) && !isTrue(q, used, values) })
			if !slices.Equal(l, want) || ok == found || e != api.OK {
				t.Fatal(text(p), text(q), most, l, ok, e, want)
			}
			want, found = first(used, most, func(values []int) bool { return isTrue(p, used, values) != isTrue(q, used, values) })
			if !slices.Equal(m, want) || same == found || f != api.OK {
				t.Fatal(text(p), text(q), most, m, same, f, want)
			}
		}
	}
}

// checkOne checks Sat and Count of a predicate with at most MaxAtoms comparisons.
func checkOne(t *testing.T, p api.Pred, names []string, most int) {
	t.Helper()
	want, found := first(names, most, func(values []int) bool { return isTrue(p, names, values) })
	if l, ok, e := ask.Sat(p, names, most); !slices.Equal(l, want) || ok != found || e != api.OK {
		t.Fatal(text(p), most, l, ok, e, want)
	}
	count := 0
	for _, values := range assignments(len(names), most) {
		if isTrue(p, names, values) {
			count++
		}
	}
	if n, e := ask.Count(p, names, most); n != count || e != api.OK {
		t.Fatal(text(p), most, n, e, count)
	}
	if n, e := ask.Count(opposite(p), names, most); n != len(assignments(len(names), most))-count || e != api.OK {
		t.Fatal(text(p), most, n, e, count)
	}
}

// P5.10
func TestImpliesAndSame(t *testing.T) {
	one, two := []string{"x.a"}, []string{"x.a", "x.b"}
	for _, x := range []struct {
		p, q          string
		most          int
		want, differs []api.Bind
	}{
		{"x.a < x.b", "x.a <= x.b - 2", 9, binds(two, 0, 1), binds(two, 0, 1)},
		{"x.a <= x.b - 2", "x.a < x.b", 9, nil, binds(two, 0, 1)},
		{"x.a < x.b", "x.a <= x.b", 9, nil, binds(two, 0, 0)},
		{"x.a = x.b", "not x.a != x.b", api.MaxValue, nil, nil},
		{"x.a < 3", "x.a < 4", 3, nil, binds(one, 3)},
		{"x.a < 4", "x.a < 3", 3, binds(one, 3), binds(one, 3)},
		{"x.a < 3", "x.a < 4", 2, nil, nil},
		{"x.b > 2", "x.a > 2", 9, binds(two, 0, 3), binds(two, 0, 3)},
		{"x.a > 2", "x.b > 2", 9, binds(two, 3, 0), binds(two, 0, 3)},
		{"x.a <= 65535", "1 <= 1", api.MaxValue, nil, nil},
		{"1 <= 1", "x.a <= 65534", api.MaxValue, binds(one, api.MaxValue), binds(one, api.MaxValue)},
		{"1 <= 0", "x.a <= x.a - 1", 3, nil, nil},
		{"1 <= 0", "x.a <= 0", 3, nil, binds(one, 0)},
		{"1 <= 1", "x.z <= x.z", 3, nil, nil},
		{"x.a < x.b and x.b < x.c", "x.a + 2 <= x.c", api.MaxValue, nil, binds([]string{"x.a", "x.b", "x.c"}, 0, 0, 2)},
	} {
		p, q := pred(t, x.p), pred(t, x.q)
		if l, ok, e := ask.Implies(p, q, x.most); !slices.Equal(l, x.want) || ok != (x.want == nil) || e != api.OK {
			t.Error(x.p, x.q, l, ok, e)
		}
		if l, ok, e := ask.Same(p, q, x.most); !slices.Equal(l, x.differs) || ok != (x.differs == nil) || e != api.OK {
			t.Error(x.p, x.q, l, ok, e)
		}
	}
	// Without names.
	yes, no := api.Pred{}, atom("", "", -1)
	for i, x := range []struct {
		p, q          api.Pred
		implies, same bool
	}{{yes, yes, true, true}, {yes, no, false, false}, {no, yes, true, false}, {no, no, true, true}} {
		l, ok, e := ask.Implies(x.p, x.q, 0)
		m, same, f := ask.Same(x.p, x.q, 0)
		if len(l) > 0 || ok != x.implies || e != api.OK || len(m) > 0 || same != x.same || f != api.OK {
			t.Error(i, ok, e, same, f)
		}
	}
}

// named returns a predicate with n names, from the index from on, and no comparison.
func named(from, n int) api.Pred {
	p := some()
	for _, name := range numbered(26)[from : from+n] {
		p.Kids = append(p.Kids, atom(name, name, 0))
	}
	return p
}

// P5.9, P5.10, P5.11: errors.
func TestDecideErrors(t *testing.T) {
	names, p := []string{"x.a", "x.b", "x.c"}, pred(t, "x.a < 3")
	sat := func(p api.Pred, names []string, most int, want api.Errno) {
		t.Helper()
		if l, ok, e := ask.Sat(p, names, most); len(l) > 0 && want != api.OK || ok != (want == api.OK) || e != want {
			t.Error(names, most, l, ok, e)
		}
		if n, e := ask.Count(p, names, most); e != want && (want != api.OK || e != api.ErrFull) || n > 0 && e != api.OK {
			t.Error(names, most, n, e)
		}
	}
	both := func(p, q api.Pred, most int, want api.Errno) {
		t.Helper()
		for _, decide := range []func(p, q api.Pred, most int) ([]api.Bind, bool, api.Errno){ask.Implies, ask.Same} {
			l, ok, e := decide(p, q, most)
			m, other, f := decide(q, p, most)
			if e != want || f != want || want != api.OK && (len(l) > 0 || ok || len(m) > 0 || other) {
				t.Error(most, l, ok, e, m, other, f)
			}
		}
	}
	nine := some(wide(9)...)
	for _, bad := range notPreds() {
		sat(bad, names, 9, api.ErrArg)
		both(bad, p, 9, api.ErrArg)
		both(bad, nine, 9, api.ErrArg)
	}
	for _, most := range []int{-1, api.MaxValue + 1, math.MaxInt, math.MinInt} {
		sat(p, names, most, api.ErrArg)
		sat(nine, names, most, api.ErrArg)
		both(p, p, most, api.ErrArg)
		both(nine, p, most, api.ErrArg)
	}
	for _, l := range [][]string{nil, {"x.b"}, {"x.b", "x.a"}, {"x.a", "x.a"}, {"x.a", "x"}, {"", "x.a"}, {"x.a", "x.in"}, append([]string{"x.a"}, numbered(16)...)} {
		sat(p, l, 9, api.ErrArg)
		sat(nine, l, 9, api.ErrArg)
	}
	sat(p, append([]string{"x.a"}, numbered(15)...), 9, api.OK)
	sat(named(0, 16), numbered(16), 9, api.OK)
	sat(named(0, 17), numbered(17), 9, api.ErrArg)
	sat(named(0, 4), numbered(3), 9, api.ErrArg)
	sat(atom("x.d", "x.d", 0), names, 9, api.ErrArg)
	both(named(0, 8), named(8, 8), 9, api.OK)
	both(named(0, 10), named(4, 12), 9, api.OK)
	both(named(0, 8), named(8, 9), 9, api.ErrArg)
	both(named(0, 10), named(4, 13), 9, api.ErrArg)
	both(named(0, 17), p, 9, api.ErrArg)
	both(named(0, 16), nine, 9, api.ErrArg)

	eight := some(wide(8)...)
	sat(eight, names, 9, api.OK)
	sat(nine, names, 9, api.ErrFull)
	// An atom and its negation are one comparison, and a constant atom is none.
	all17 := slices.Concat(wide(8), wide(8), opposite(eight).Kids, []api.Pred{{}, atom("x.b", "x.b", 0), atom("", "", 3), atom("x.c", "x.c", -1)})
	sat(some(all17...), names, 9, api.OK)
	sat(some(append(all17, atom("x.a", "", 8))...), names, 9, api.ErrFull)
	sat(some(append(all17, atom("", "x.a", 0))...), names, 9, api.ErrFull)
	sat(some(append(all17, atom("x.a", "x.b", 0))...), names, 9, api.ErrFull)
	both(eight, opposite(eight), 9, api.OK)
	both(some(wide(4)...), some(opposite(eight).Kids...), 9, api.OK)
	both(some(wide(4)...), some(atom("x.b", "", 1), atom("x.b", "", 2), atom("x.b", "", 3), atom("x.b", "", 4)), 9, api.OK)
	both(some(wide(4)...), some(atom("x.b", "", 1), atom("x.b", "", 2), atom("x.b", "", 3), atom("x.b", "", 4), atom("x.b", "", 5)), 9, api.ErrFull)
	both(eight, atom("x.b", "", 0), 9, api.ErrFull)
	both(nine, p, 9, api.ErrFull)
}

// P5.11: numbers of assignments that a formula tells.
func TestCount(t *testing.T) {
	const m = api.MaxValue
	one, two, three := []string{"x.a"}, []string{"x.a", "x.b"}, []string{"x.a", "x.b", "x.c"}
	for _, x := range []struct {
		text  string
		names []string
		most  int
		want  int
		e     api.Errno
	}{
		{"x.a < x.b", two, 9, 45, api.OK},
		{"x.a < x.b", two, m, m * (m + 1) / 2, api.OK},
		{"x.b < x.a", two, m, m * (m + 1) / 2, api.OK},
		{"x.a <= x.b", two, m, (m + 1) * (m + 2) / 2, api.OK},
		{"x.a = x.b", two, m, m + 1, api.OK},
		{"x.a + 65535 <= x.b", two, m, 1, api.OK},
		{"x.a + 65534 <= x.b", two, m, 3, api.OK},
		{"x.a + 65536 <= x.b", two, m, 0, api.OK},
		{"x.b = 7", two, m, m + 1, api.OK},
		{"x.a = 7", two, m, m + 1, api.OK},
		{"x.a != 7 and x.b != 65535", two, m, m * m, api.OK},
		{"x.a in { 1..2, 4..6 } and x.b in { 0, 65535 }", two, m, 10, api.OK},
		{"x.a in { 3, 9..12 }", one, m, 5, api.OK},
		{"x.a >= 0", one, m, m + 1, api.OK},
		{"x.a != 3 or x.b = 2", two, 4, 21, api.OK},
		{"0 <= 0", two, m, (m + 1) * (m + 1), api.OK},
		{"1 <= 2", nil, 7, 1, api.OK},
		{"2 <= 1", nil, 7, 0, api.OK},
		{"1 <= 2", one, 0, 1, api.OK},
		{"x.a < x.b and x.b < x.c", three, 9, 120, api.OK},
		{"x.a < x.b and x.b < x.c", three, 255, 256 * 255 * 254 / 6, api.OK},
		{"x.a < x.b and x.b < x.c", three, 256, 0, api.ErrFull},
		{"0 <= 0", three, 255, 1 << 24, api.OK},
		{"0 <= 0", three, 256, 0, api.ErrFull},
		{"0 <= 0", three, m, 0, api.ErrFull},
		{"2 <= 1", three, 256, 0, api.ErrFull},
		{"0 <= 0", numbered(4), 0, 0, api.ErrFull},
		{"0 <= 0", numbered(16), 1, 0, api.ErrFull},
		{"0 <= 0", numbered(17), 1, 0, api.ErrArg},
		{"x.a < 3", []string{"x.b"}, 9, 0, api.ErrArg},
		{"x.a < 3", numbered(4), 9, 0, api.ErrArg},
		{"x.a < 3", two, -1, 0, api.ErrArg},
		{"x.a < 3", three, m + 1, 0, api.ErrArg},
	} {
		if n, e := ask.Count(pred(t, x.text), x.names, x.most); n != x.want || e != x.e {
			t.Error(x.text, x.most, n, e)
		}
	}
	for i, p := range []api.Pred{least(1, wide(8)...), least(4, wide(8)...), all(wide(8)...)} {
		if n, e := ask.Count(p, two, 9); n != []int{80, 50, 10}[i] || e != api.OK {
			t.Error(i, n, e)
		}
	}
}

// P5.18: a predicate and its negation, with great values.
func TestCountBoth(t *testing.T) {
	for n := 1; n <= 3; n++ {
		names, most := numbered(n), []int{0, api.MaxValue, api.MaxValue, 255}[n]
		r := random(names, -most-1, most, 5)
		for range 12 {
			p := r.fresh().pred(4)
			if comparisons(p) > api.MaxAtoms {
				continue
			}
			yes, e := ask.Count(p, names, most)
			no, f := ask.Count(ask.Negate(p), names, most)
			total := 1
			for range names {
				total *= most + 1
			}
			if yes+no != total || e != api.OK || f != api.OK {
				t.Error(text(p), yes, no, e, f)
			}
			l, ok, _ := ask.Sat(p, names, most)
			if holds, _ := ask.Holds(p, l); ok != (yes > 0) || ok && !holds {
				t.Error(text(p), l, ok)
			}
		}
	}
}
