package crowd_test

import (
	"math"
	"math/rand/v2"
	"slices"
	"testing"

	"cloak/api"
	"cloak/crowd"
)

// two is the wish that each use has at least two possible members.
func two() []api.Wish { return []api.Wish{{Question: api.None, Least: 2}} }

// anyWishes returns wishes at random.
func anyWishes(r *rand.Rand) []api.Wish {
	var l []api.Wish
	for range r.IntN(4) {
		l = append(l, api.Wish{Question: max(api.None, r.IntN(11)-4), Least: r.IntN(5) - 1})
	}
	return l
}

// anyOwn returns some uses of a crowd, at random, some of them twice.
func anyOwn(r *rand.Rand, c api.Crowd) []int {
	var l []int
	for range r.IntN(len(c.Uses) + 1) {
		l = append(l, r.IntN(len(c.Uses)))
	}
	return l
}

// P9.7, P9.18, T8: Told returns what is possible for the further use after it was made.
func TestTold(t *testing.T) {
	r := random()
	some := 0
	for range 1000 {
		c := anyCrowd(t, r)
		u := anyUse(r, c)
		after := withUse(c, u)
		want := possibleOf(after, assignments(after), len(c.Uses))
		if got := crowd.Told(c, u); !slices.Equal(got, want) || !slices.Equal(got, crowd.Possible(after, len(c.Uses))) {
			t.Fatal(c, u, got, want)
		}
		if len(want) > 1 {
			some++
		}
	}
	if some < 100 {
		t.Error(some)
	}
}

// P9.8: Keeps agrees with the definition.
func TestKeeps(t *testing.T) {
	r := random()
	kept, broken, byOwn := 0, 0, 0
	for range 1500 {
		c := anyCrowd(t, r)
		u, own, wishes := anyUse(r, c), anyOwn(r, c), anyWishes(r)
		want := !breaksOf(c, own, u, wishes)
		if crowd.Keeps(c, own, u, wishes) != want {
			t.Fatal(c, own, u, wishes)
		}
		if want {
			kept++
		} else if broken++; !breaksOf(c, nil, u, wishes) {
			byOwn++
		}
	}
	if kept < 300 || broken < 300 || byOwn < 15 {
		t.Error(kept, broken, byOwn)
	}
}

// P9.8: the need of a use is the greatest of those that concern it, and own uses of other windows are not concerned.
func TestNeeds(t *testing.T) {
	c := example(t, seen(0, 0, 1, api.None), use(1, 0))
	c.Members[0].Tickets = []int{2, 1}
	c.Members[1].Tickets = []int{1, 1}
	for i, x := range []struct {
		own    []int
		use    api.Seen
		wishes []api.Wish
		want   bool
	}{
		{nil, use(0, 0), nil, true},
		{nil, use(0, 0), []api.Wish{{Question: 0, Least: 2}}, true},
		{nil, use(0, 0), []api.Wish{{Question: 0, Least: 3}}, false},
		{nil, use(0, 0), []api.Wish{{Question: 0, Least: 3}, {Question: 0, Least: 2}}, false},
		{nil, use(0, 0), []api.Wish{{Question: 0, Least: 2}, {Question: api.None, Least: 3}}, false},
		{nil, use(0, 0), []api.Wish{{Question: 1, Least: 3}, {Question: -2, Least: 4}, {Question: 2, Least: 5}}, true},
		{nil, use(0, 0), []api.Wish{{Question: api.None, Least: -3}}, true},
		{nil, use(0, 0), []api.Wish{{Question: api.None, Least: math.MaxInt}}, false},
		{nil, use(0, 0), []api.Wish{{Question: math.MaxInt, Least: 9}, {Question: math.MinInt, Least: 9}, {Question: 0, Least: math.MinInt}}, true},
		{[]int{0}, use(0, 0), two(), false},
		{[]int{1}, use(0, 0), two(), true},
		{[]int{0}, use(0, 0), []api.Wish{{Question: 1, Least: 2}}, true},
		{[]int{0}, use(0, 1), two(), true},
		{[]int{1, 1, 0, 0}, use(0, 1), two(), true},
	} {
		if crowd.Keeps(c, x.own, x.use, x.wishes) != x.want {
			t.Error(i)
		}
	}
}

// P9.9, P9.18: the document's examples.
func TestWishExamples(t *testing.T) {
	revoked := seen(0, 0, 1, api.None)
	for i, x := range []struct {
		uses    []api.Seen
		use     api.Seen
		told    []int
		keeps   bool
		explain []int
	}{
		{[]api.Seen{use(1, 0)}, revoked, []int{0}, false, nil},
		{[]api.Seen{use(1, 0), use(1, 0)}, use(0, 0), []int{1}, false, []int{0, 1}},
	} {
		c := example(t, x.uses...)
		why, e := crowd.Explain(c, nil, x.use, two())
		if told := crowd.Told(c, x.use); !slices.Equal(told, x.told) || crowd.Keeps(c, nil, x.use, two()) != x.keeps || !slices.Equal(why, x.explain) || e != api.OK {
			t.Error(i, told, why, e)
		}
	}
}

// P9.9, P9.18, T9: Explain returns the first of the smallest subsets that explain; their supersets explain as well; if there is none, the use keeps the wishes, unless another group has no assignment.
func TestExplain(t *testing.T) {
	r := random()
	var sizes [4]int
	none := 0
	for range 6000 {
		c := anyCrowd(t, r)
		u, own, wishes := anyUse(r, c), anyOwn(r, c), append(anyWishes(r), two()...)
		for i := range c.Uses {
			c.Uses[i].Window &= i // most of them in the window 0
		}
		for i := range c.Members {
			c.Members[i].Tickets[0] |= 1
		}
		if explainsOf(c, own, u, wishes, nil) && r.IntN(8) > 0 {
			continue // so that there are more of those that earlier uses explain
		}
		got, e := crowd.Explain(c, own, u, wishes)
		subsets := subsetsOf(groupOf(c, u.Window))
		at := slices.IndexFunc(subsets, func(s []int) bool { return explainsOf(c, own, u, wishes, s) })
		if at < 0 {
			if len(got) > 0 || e != api.ErrNone {
				t.Fatal(c, own, u, wishes, got, e)
			}
			if others := len(assignments(c)) == 0; !others && !crowd.Keeps(c, own, u, wishes) {
				t.Fatal(c, own, u, wishes)
			}
			none++
			continue
		}
		if !slices.Equal(got, subsets[at]) || e != api.OK {
			t.Fatal(c, own, u, wishes, got, e, subsets[at])
		}
		sizes[min(len(got), 3)]++
		for _, s := range subsets {
			if !slices.ContainsFunc(got, func(x int) bool { return !slices.Contains(s, x) }) && !explainsOf(c, own, u, wishes, s) {
				t.Fatal(c, own, u, wishes, got, s)
			}
		}
	}
	if none < 500 || sizes[0] < 200 || sizes[1] < 200 || sizes[2] < 25 || sizes[3] < 5 {
		t.Error(none, sizes)
	}
}

// P9.9: groups with 12 and 13 uses, where the only explanation is the whole group, and uses in other windows.
func TestExplainLimits(t *testing.T) {
	c := equals(t, 13, 1, 1)
	c.Questions = append(c.Questions, preds(t, "x.b = 1")...)
	c.Members[12].Binds[1].Value = 2 // can have made uses of the question 0 only
	c = withUses(c, 12)
	for i := range c.Uses {
		c.Uses[i].Question = 1
	}
	c.Uses = slices.Insert(c.Uses, 3, slices.Repeat([]api.Seen{use(0, 1)}, 13)...)
	got, e := crowd.Explain(c, nil, use(0, 0), two())
	if !slices.Equal(got, groupOf(c, 0)) || len(got) != 12 || e != api.OK {
		t.Error(got, e)
	}
	if got, e := crowd.Explain(c, nil, use(0, 1), two()); len(got) > 0 || e != api.ErrFull {
		t.Error(got, e)
	}
	c.Uses = append(c.Uses, use(0, 0))
	if got, e := crowd.Explain(c, nil, use(0, 0), two()); len(got) > 0 || e != api.ErrFull {
		t.Error(got, e)
	}
	c.Uses = []api.Seen{use(0, 0), use(0, 2)} // nobody can have made the use in the window 2
	if got, e := crowd.Explain(c, []int{0, 1}, use(0, 0), two()); len(got) > 0 || e != api.ErrNone || crowd.Keeps(c, nil, use(0, 0), two()) {
		t.Error(got, e)
	}
}

// P9.7 to P9.10: crowds that are full or not valid, and uses, elements of own, and options that are none.
func TestWishErrors(t *testing.T) {
	refused := func(name string, c api.Crowd, own []int, u api.Seen) {
		t.Helper()
		l, e := crowd.Explain(c, own, u, nil)
		i, ok := crowd.Relax(c, own, []api.Option{{Use: u}}, nil)
		if crowd.Keeps(c, own, u, nil) || len(l) > 0 || e != api.ErrArg || i != api.None || ok {
			t.Error(name, l, e, i, ok)
		}
	}
	for _, c := range notCrowds(t) {
		refused("crowd", c, nil, use(0, 0))
		if l := crowd.Told(c, use(0, 0)); len(l) > 0 {
			t.Error(l)
		}
	}
	c := example(t, use(0, 0), use(1, 0))
	for _, u := range notUses() {
		refused("use", c, nil, u)
		if l := crowd.Told(c, u); len(l) > 0 {
			t.Error(l)
		}
	}
	for _, n := range ints {
		if n != 0 && n != 1 {
			refused("own", c, []int{0, n}, use(1, 0))
		}
	}
	full := withUses(equals(t, 2, 4096), 4096)
	refused("full", full, nil, use(0, 0))
	if l := crowd.Told(full, use(0, 0)); len(l) > 0 {
		t.Error(l)
	}
	full.Uses = full.Uses[1:]
	if l := crowd.Told(full, use(0, 0)); len(l) != 2 || !crowd.Keeps(full, []int{4094}, use(0, 0), two()) {
		t.Error(l)
	}
}

// P9.10, P9.19, T9: Relax returns the first of the cheapest options that keep the wishes.
func TestRelax(t *testing.T) {
	r := random()
	found, ties := 0, 0
	for range 1000 {
		c := anyCrowd(t, r)
		own, wishes := anyOwn(r, c), anyWishes(r)
		var options []api.Option
		for range r.IntN(7) {
			options = append(options, api.Option{Use: anyUse(r, c), Cost: r.IntN(5) - 2})
		}
		want := api.None
		for i, o := range options {
			if !crowd.Keeps(c, own, o.Use, wishes) {
				continue
			}
			if want == api.None || o.Cost < options[want].Cost {
				want = i
			} else if o.Cost == options[want].Cost {
				ties++
			}
		}
		got, ok := crowd.Relax(c, own, options, wishes)
		if got != want || ok != (want != api.None) {
			t.Fatal(c, own, options, wishes, got, want)
		}
		if ok {
			found++
		}
	}
	if found < 300 || ties < 100 {
		t.Error(found, ties)
	}
}

// P9.10: no options, 32 and 33 of them, costs at the ends of their range, and options that are no uses of the crowd.
func TestRelaxEdges(t *testing.T) {
	c := example(t)
	bad, good := api.Option{Use: use(2, 0), Cost: math.MinInt}, api.Option{Use: use(0, 0), Cost: math.MaxInt}
	for i, x := range []struct {
		options []api.Option
		want    int
	}{
		{nil, api.None},
		{[]api.Option{bad, good, good}, 1},
		{slices.Repeat([]api.Option{good}, 32), 0},
		{slices.Repeat([]api.Option{good}, 33), api.None},
		{[]api.Option{{Use: seen(0, 0, 1, api.None)}, {Use: use(1, 0), Cost: 3}, {Use: use(0, 0), Cost: 2}, {Use: use(1, 0), Cost: 2}}, 2},
	} {
		if got, ok := crowd.Relax(c, nil, x.options, two()); got != x.want || ok != (got != api.None) {
			t.Error(i, got, ok)
		}
	}
	if got, ok := crowd.Relax(c, nil, []api.Option{good}, []api.Wish{{Question: api.None, Least: 3}}); got != api.None || ok {
		t.Error(got, ok)
	}
}
