package ask_test

import (
	"math"
	"math/big"
	"slices"
	"testing"

	"cloak/api"
	"cloak/ask"
)

// contradicts reports whether a list is a contradiction, by the definition.
func contradicts(atoms []api.Pred, names []string, most int, list []int) bool {
	constraints := slices.Clone(atoms)
	for _, name := range names {
		constraints = append(constraints, atom("", name, 0), atom(name, "", most))
	}
	sum := new(big.Int)
	for k, i := range list {
		next := list[(k+1)%len(list)]
		if i < 0 || i >= len(constraints) || next < 0 || next >= len(constraints) || constraints[i].Right != constraints[next].Left {
			return false
		}
		sum.Add(sum, big.NewInt(int64(constraints[i].C)))
	}
	return sum.Sign() < 0
}

// check checks Least and Cycle of atoms, of which want is the least assignment (nil, if there is none).
func check(t *testing.T, atoms []api.Pred, names []string, most int, want []int) {
	t.Helper()
	l, ok := ask.Least(atoms, names, most)
	if ok != (want != nil) || !slices.Equal(l, binds(names, want...)) {
		t.Fatal(atoms, most, l, ok, want)
	}
	list, odd := ask.Cycle(atoms, names, most)
	if odd == ok || len(list) > len(names)+1 || odd != contradicts(atoms, names, most, list) || !odd && len(list) > 0 {
		t.Fatal(atoms, most, list, odd)
	}
	if ask.Contradicts(atoms, names, most, list) != odd {
		t.Fatal(atoms, most, list, odd)
	}
}

// P5.8
func TestLeast(t *testing.T) {
	names := []string{"x.a", "x.b", "x.c"}
	for _, x := range []struct {
		l    []api.Pred
		most int
		want []int
	}{
		{nil, 0, []int{0, 0, 0}},
		{nil, api.MaxValue, []int{0, 0, 0}},
		{[]api.Pred{atom("x.a", "x.b", -2), atom("x.b", "x.c", -3)}, 5, []int{0, 2, 5}},
		{[]api.Pred{atom("x.b", "x.c", -3), atom("x.a", "x.b", -2)}, 5, []int{0, 2, 5}},
		{[]api.Pred{atom("x.a", "x.b", -2), atom("x.b", "x.c", -3)}, 4, nil},
		{[]api.Pred{atom("x.c", "x.b", -2), atom("x.b", "x.a", -2), atom("", "x.c", -1)}, 5, []int{5, 3, 1}},
		{[]api.Pred{atom("x.b", "x.a", -3), atom("x.a", "x.b", 2)}, 9, nil},
		{[]api.Pred{atom("x.b", "x.a", -3), atom("x.a", "x.b", 3)}, 9, []int{3, 0, 0}},
		{[]api.Pred{atom("x.b", "x.a", -3), atom("x.a", "x.b", 3), atom("", "x.b", -4)}, 9, []int{7, 4, 0}},
		{[]api.Pred{atom("x.a", "", 3), atom("", "x.a", -3)}, 9, []int{3, 0, 0}},
		{[]api.Pred{atom("x.a", "", 2), atom("", "x.a", -3)}, 9, nil},
		{[]api.Pred{atom("", "x.b", -9), atom("", "x.b", -4), atom("", "x.b", 7)}, 9, []int{0, 9, 0}},
		{[]api.Pred{atom("", "x.b", -10)}, 9, nil},
		{[]api.Pred{atom("x.a", "x.a", -1)}, 9, nil},
		{[]api.Pred{atom("x.a", "x.a", 0)}, 9, []int{0, 0, 0}},
		{[]api.Pred{atom("", "", -1)}, 9, nil},
		{[]api.Pred{atom("", "", 0)}, 9, []int{0, 0, 0}},
		{[]api.Pred{atom("x.a", "", -1)}, 9, nil},
		{[]api.Pred{atom("x.a", "x.b", -1), atom("x.b", "x.c", -1), atom("x.c", "x.a", 1)}, 9, nil},
		{[]api.Pred{atom("x.a", "x.b", -1), atom("x.b", "x.c", -1), atom("x.c", "x.a", 2)}, 9, []int{0, 1, 2}},
		{[]api.Pred{atom("x.a", "x.b", api.MaxNumber-1), atom("x.c", "", api.MaxNumber-1)}, 9, []int{0, 0, 0}},
		{[]api.Pred{atom("x.a", "x.b", -api.MaxNumber), atom("x.b", "x.c", -api.MaxNumber), atom("x.c", "x.a", -api.MaxNumber)}, 9, nil},
		{[]api.Pred{atom("", "x.c", -api.MaxValue), atom("x.b", "x.c", -api.MaxValue)}, api.MaxValue, []int{0, 0, api.MaxValue}},
	} {
		check(t, x.l, names, x.most, x.want)
	}
	check(t, nil, nil, 7, []int{})
	check(t, []api.Pred{atom("", "", 0)}, nil, 0, []int{})
	check(t, []api.Pred{atom("", "", 0), atom("", "", -1)}, nil, 0, nil)
}

// leastOf returns the assignment that is nowhere greater than another one for which all atoms are true (nil, if there is none).
func leastOf(atoms []api.Pred, names []string, most int) []int {
	var least []int
	for _, values := range assignments(len(names), most) {
		if slices.ContainsFunc(atoms, func(a api.Pred) bool { return !isTrue(a, names, values) }) {
			continue
		}
		if least == nil {
			least = slices.Clone(values)
		}
		for i, v := range values {
			least[i] = min(least[i], v)
		}
	}
	return least
}

// P5.8, P5.17: random atoms. Either there is an assignment for which all are true, and a least one; or there is a contradiction.
func TestLeastRandom(t *testing.T) {
	for n := range 5 {
		names := numbered(n)
		r := random(names, -4, 3, 0)
		good := 0
		for i := range 600 {
			most := 1 + i%4
			var atoms []api.Pred
			for range i % 7 {
				atoms = append(atoms, r.atom())
			}
			want := leastOf(atoms, names, most)
			check(t, atoms, names, most, want)
			if want != nil {
				good++
			}
		}
		if good < 60 || good > 540 {
			t.Error(n, good)
		}
	}
}

// P5.8: as many names as possible, in chains and circles. The contradictions need all of them.
func TestLeastLong(t *testing.T) {
	names := numbered(ask.MaxNames)
	n := len(names)
	var up, down []api.Pred
	var ascending, descending []int
	for i := range n {
		ascending, descending = append(ascending, 3*i), append(descending, 3*(n-1-i))
		if i > 0 {
			up = append(up, atom(names[i-1], names[i], -3))
			down = append(down, atom(names[i], names[i-1], -3))
		}
	}
	for _, x := range []struct {
		l    []api.Pred
		want []int
	}{{up, ascending}, {down, descending}} {
		reversed := slices.Clone(x.l)
		slices.Reverse(reversed)
		for _, l := range [][]api.Pred{x.l, reversed} {
			check(t, l, names, 45, x.want)
			check(t, l, names, api.MaxValue, x.want)
			check(t, l, names, 44, nil)
			first, last := slices.Index(x.want, 0), slices.Index(x.want, 45)
			check(t, append(slices.Clone(l), atom(names[last], names[first], 45)), names, 60, x.want)
			check(t, append(slices.Clone(l), atom(names[last], names[first], 44)), names, 60, nil)
			if list, ok := ask.Cycle(l, names, 44); !ok || len(list) != n+1 {
				t.Error(list, ok)
			}
		}
	}
	// Very many atoms, of which few matter.
	r := random(names, -2, 900, 0)
	var many []api.Pred
	for range 3000 {
		many = append(many, r.atom())
	}
	for _, l := range [][]api.Pred{many, slices.Concat(many, up), slices.Concat(up, many, down)} {
		b, ok := ask.Least(l, names, 900)
		list, odd := ask.Cycle(l, names, 900)
		if ok == odd || odd && (!contradicts(l, names, 900, list) || len(list) > n+1) {
			t.Error(ok, odd, list)
		}
		for _, a := range l {
			if holds, _ := ask.Holds(a, b); ok && !holds {
				t.Error(a)
			}
		}
	}
}

// P5.8
func TestContradicts(t *testing.T) {
	names := []string{"x.a", "x.b", "x.c"}
	l := []api.Pred{atom("x.b", "x.a", -3), atom("x.a", "x.b", 2), atom("x.a", "x.a", -1), atom("", "", -2), atom("", "x.a", -9), atom("x.b", "x.b", 0)}
	// The constraints 6 to 11 are the bounds of the names; most is 6.
	for _, x := range []struct {
		list []int
		want bool
	}{
		{nil, false}, {[]int{}, false},
		{[]int{0, 1}, true}, {[]int{1, 0}, true}, {[]int{0, 1, 0, 1}, true}, {[]int{0, 2, 1}, true}, {[]int{1, 5, 0}, true},
		{[]int{0}, false}, {[]int{1}, false}, {[]int{0, 0}, false}, {[]int{0, 1, 0}, false}, {[]int{1, 0, 1}, false}, {[]int{2, 0, 1}, false}, {[]int{0, 5, 1}, false},
		{[]int{2}, true}, {[]int{2, 2}, true}, {[]int{3}, true}, {[]int{3, 3, 3}, true}, {[]int{5}, false}, {[]int{2, 3}, false},
		{[]int{4, 7}, true}, {[]int{7, 4}, true}, {[]int{4, 6}, false}, {[]int{6, 7}, false}, {[]int{7, 6}, false}, {[]int{4, 9}, false}, {[]int{4, 1, 9}, true}, {[]int{9, 4, 1}, true}, {[]int{1, 9, 4}, true}, {[]int{8, 9}, false}, {[]int{8, 0, 7}, false}, {[]int{10, 11}, false}, {[]int{3, 10, 11}, false}, {[]int{3, 3, 3, 3, 10, 11}, true}, {[]int{3, 3, 3, 10, 11}, false},
		{[]int{12}, false}, {[]int{-1}, false}, {[]int{2, 12}, false}, {[]int{12, 2}, false}, {[]int{2, -1}, false}, {[]int{-1, 2}, false}, {[]int{math.MaxInt}, false}, {[]int{math.MinInt}, false}, {[]int{2, math.MinInt, 2}, false},
	} {
		if got := ask.Contradicts(l, names, 6, x.list); got != x.want || contradicts(l, names, 6, x.list) != x.want {
			t.Error(x.list, got)
		}
	}
	// The sum is 0 or -1 after many steps.
	far := []api.Pred{atom("x.a", "x.a", api.MaxNumber-1), atom("x.a", "x.a", -api.MaxNumber), atom("x.a", "x.a", 1)}
	long := slices.Repeat([]int{0, 1, 2}, 5000)
	if ask.Contradicts(far, names, 6, long) || !ask.Contradicts(far, names, 6, append(long, 0, 1)) || ask.Contradicts(far, names, 6, append(long, 1, 0, 2, 2)) {
		t.Error("sums")
	}
	for n := range 100 {
		if ask.Contradicts(far, names, 6, slices.Repeat([]int{0}, n*n)) || ask.Contradicts(far, names, 6, slices.Repeat([]int{1}, n*n)) != (n > 0) {
			t.Error("great sums", n)
		}
	}
	// All lists of at most four constraints.
	few, two := []api.Pred{atom("x.a", "x.b", -3), atom("x.b", "x.a", 2), atom("", "", -1)}, names[:2]
	for n := range 4 {
		for _, list := range assignments(n+1, 8) {
			for i := range list {
				list[i]--
			}
			if ask.Contradicts(few, two, 2, list) != contradicts(few, two, 2, list) {
				t.Error(list)
			}
		}
	}
}

// P5.8: arguments that are not valid.
func TestLeastErrors(t *testing.T) {
	names := []string{"x.a", "x.b", "x.c"}
	no := atom("x.a", "x.a", -1)
	refused := func(atoms []api.Pred, names []string, most int) {
		t.Helper()
		if l, ok := ask.Least(atoms, names, most); ok || len(l) > 0 {
			t.Error(names, most, l)
		}
		if list, ok := ask.Cycle(atoms, names, most); ok || len(list) > 0 {
			t.Error(names, most, list)
		}
		// The index 0 would be a contradiction.
		if ask.Contradicts(append([]api.Pred{no}, atoms...), names, most, []int{0}) {
			t.Error(names, most)
		}
	}
	for _, p := range notPreds() {
		refused([]api.Pred{p}, names, 9)
		refused([]api.Pred{no, p, no}, names, 9)
	}
	for _, p := range []api.Pred{all(no, no), some(no, no), least(1, no), atom("x.d", "", 1), atom("", "x.d", 1), atom("x.a", "x.d", 1), atom("x.d", "x.d", 1), atom("X.a", "", 1), atom("x.a_", "", 1)} {
		refused([]api.Pred{p}, names, 9)
		refused([]api.Pred{no, p}, names, 9)
	}
	for _, most := range []int{-1, api.MaxValue + 1, math.MaxInt, math.MinInt} {
		refused(nil, names, most)
		refused([]api.Pred{no}, names, most)
	}
	for _, l := range [][]string{{"x.a", "x.a"}, {"x.b", "x.a"}, {"x.a", "x.b", "x.b"}, {"x.a", "x.c", "x.b"}, {""}, {"", "x.a"}, {"x"}, {"x.a", "x.in"}, {"x.a", "x.a.b"}, {"x.a", "y"}, append([]string{"x.a"}, numbered(16)...)} {
		refused(nil, l, 9)
	}
	refused([]api.Pred{no}, numbered(16), 9)
	if len(numbered(17)) != 17 || !slices.IsSorted(numbered(17)) {
		t.Error(numbered(17))
	}
	refused(nil, numbered(17), 9)
	if l, ok := ask.Least(nil, append([]string{"x.a"}, numbered(15)...), 9); !ok || len(l) != 16 {
		t.Error(l, ok)
	}
}
