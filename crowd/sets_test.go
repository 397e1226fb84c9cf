package crowd_test

import (
	"slices"
	"testing"

	"cloak/api"
	"cloak/crowd"
)

// free returns a list that leaves n elements open.
func free(n int) []int { return slices.Repeat([]int{api.None}, n) }

// equalSets reports whether two lists of sets are equal.
func equalSets(a, b [][]int) bool { return slices.EqualFunc(a, b, slices.Equal) }

// P9.2, P9.3, P9.5: the document's examples.
func TestExamples(t *testing.T) {
	for i, x := range []struct {
		uses  []api.Seen
		sets  [][]int
		count int
		named []int
		first []int
	}{
		{[]api.Seen{use(0, 0)}, [][]int{{0, 1}}, 2, []int{-1}, []int{0}},
		{[]api.Seen{seen(0, 0, 1, api.None)}, [][]int{{0}}, 1, []int{0}, []int{0}},
		{[]api.Seen{use(0, 0), use(1, 0)}, [][]int{{0, 1}, {0, 2}}, 3, []int{-1, -1}, []int{0, 2}},
		{[]api.Seen{use(0, 0), use(1, 0), use(1, 0)}, [][]int{{1}, {0, 2}, {0, 2}}, 2, []int{1, -1, -1}, []int{1, 0, 2}},
		{[]api.Seen{seen(0, 0, 1, api.None), use(1, 0)}, [][]int{{0}, {2}}, 1, []int{0, 2}, []int{0, 2}},
	} {
		c := example(t, x.uses...)
		n, e := crowd.Count(c)
		first, ok := crowd.Assign(c, free(len(x.uses)))
		if !equalSets(crowd.Sets(c), x.sets) || n != x.count || e != api.OK || !slices.Equal(crowd.Named(c), x.named) || !slices.Equal(first, x.first) || !ok {
			t.Error(i, crowd.Sets(c), n, e, crowd.Named(c), first)
		}
	}
}

// P9.2: Assign returns the first of the assignments that agree with a list, some of whose elements are no members.
func TestAssign(t *testing.T) {
	r := random()
	found := 0
	for range 2000 {
		c := anyCrowd(t, r)
		all := assignments(c)
		list := free(len(c.Uses))
		for i := range list {
			if r.IntN(4) == 0 {
				list[i] = r.IntN(len(c.Members)+3) - 2
			}
		}
		at := slices.IndexFunc(all, func(l []int) bool {
			for i, m := range list {
				if m != api.None && l[i] != m {
					return false
				}
			}
			return true
		})
		got, ok := crowd.Assign(c, list)
		if ok != (at >= 0) || ok && !slices.Equal(got, all[at]) || !ok && len(got) > 0 {
			t.Fatal(c, list, got)
		}
		if ok {
			found++
		}
	}
	if found < 500 {
		t.Error(found)
	}
}

// P9.2: lists of another length, numbers that are no members, crowds without uses, and crowds that are not valid.
func TestAssignEdges(t *testing.T) {
	c := example(t, use(0, 0), use(1, 0))
	for i, list := range [][]int{nil, {-1}, {-1, -1, -1}, {0, 0}, {-1, 1}} {
		if l, ok := crowd.Assign(c, list); ok || len(l) > 0 {
			t.Error(i, l)
		}
	}
	for _, n := range ints {
		if l, ok := crowd.Assign(c, []int{n, api.None}); ok != (n == api.None || n == 0 || n == 1) || ok != (len(l) == 2) {
			t.Error(n, l)
		}
	}
	if l, ok := crowd.Assign(example(t), nil); !ok || len(l) > 0 {
		t.Error(l, ok)
	}
	if l, ok := crowd.Assign(api.Crowd{}, nil); !ok || len(l) > 0 {
		t.Error(l, ok)
	}
	for i, c := range notCrowds(t) {
		if l, ok := crowd.Assign(c, free(len(c.Uses))); ok || len(l) > 0 {
			t.Error(i, l)
		}
	}
}

// P9.3, P9.12, T8: the possible members are those that some assignment gives the use to.
func TestSets(t *testing.T) {
	r := random()
	some, none, single := 0, 0, 0
	for range 3000 {
		c := anyCrowd(t, r)
		all := assignments(c)
		sets, named := crowd.Sets(c), crowd.Named(c)
		if len(sets) != len(c.Uses) || len(named) != len(c.Uses) {
			t.Fatal(c, sets, named)
		}
		for u := range c.Uses {
			want := possibleOf(c, all, u)
			only := api.None
			if len(want) == 1 {
				only = want[0]
				single++
			}
			if !slices.Equal(sets[u], want) || !slices.Equal(crowd.Possible(c, u), want) || named[u] != only {
				t.Fatal(c, u, sets, named, want)
			}
		}
		if len(all) > 0 {
			some++
		} else {
			none++
		}
	}
	if some < 500 || none < 500 || single < 200 {
		t.Error(some, none, single)
	}
}

// P9.3: no such use, a use nobody can have made in another window, and crowds that are not valid.
func TestSetsEdges(t *testing.T) {
	c := example(t, use(0, 0))
	for _, n := range ints {
		if l := crowd.Possible(c, n); n != 0 && len(l) > 0 {
			t.Error(n, l)
		}
	}
	c.Uses = append(c.Uses, use(0, 1))
	if !equalSets(crowd.Sets(c), [][]int{nil, nil}) || !slices.Equal(crowd.Named(c), []int{api.None, api.None}) || len(crowd.Possible(c, 0)) > 0 {
		t.Error(crowd.Sets(c))
	}
	if len(crowd.Sets(example(t))) > 0 || len(crowd.Named(api.Crowd{})) > 0 {
		t.Error("no uses")
	}
	for i, c := range notCrowds(t) {
		if len(crowd.Sets(c)) > 0 || len(crowd.Named(c)) > 0 || len(crowd.Possible(c, 0)) > 0 {
			t.Error(i)
		}
	}
}

// P9.4, P9.12, T8: Witness returns the first assignment that gives the use to the member; where there is none, Block returns a set that blocks.
func TestWitnessAndBlock(t *testing.T) {
	r := random()
	witnesses, blocks, elsewhere := 0, 0, 0
	for range 2000 {
		c := anyCrowd(t, r)
		all := assignments(c)
		for u := range c.Uses {
			for m := range c.Members {
				at := slices.IndexFunc(all, func(l []int) bool { return l[u] == m })
				got, ok := crowd.Witness(c, u, m)
				if ok != (at >= 0) || ok && !slices.Equal(got, all[at]) || !ok && len(got) > 0 {
					t.Fatal(c, u, m, got)
				}
				set, blocked := crowd.Block(c, u, m)
				if blocked == ok || blocked && !blocksOf(c, u, m, set) || !blocked && len(set) > 0 {
					t.Fatal(c, u, m, set)
				}
				if ok {
					witnesses++
				} else if blocks++; !slices.Contains(set, u) {
					elsewhere++
				}
			}
		}
	}
	if witnesses < 1000 || blocks < 1000 || elsewhere < 300 {
		t.Error(witnesses, blocks, elsewhere)
	}
}

// P9.4, P9.12: Blocks agrees with the definition for all sets of uses; if a set blocks, the member is not possible.
func TestBlocks(t *testing.T) {
	r := random()
	blocks := 0
	for range 400 {
		c := anyCrowd(t, r)
		all := assignments(c)
		for _, set := range subsetsOf(append([]int{-1}, append(subrange(len(c.Uses)), len(c.Uses))...)) {
			for u := range c.Uses {
				for m := range c.Members {
					want := blocksOf(c, u, m, set)
					if crowd.Blocks(c, u, m, set) != want {
						t.Fatal(c, u, m, set)
					}
					if want {
						blocks++
						if slices.Contains(possibleOf(c, all, u), m) {
							t.Fatal(c, u, m, set)
						}
					}
				}
			}
		}
	}
	if blocks < 1000 {
		t.Error(blocks)
	}
}

// subrange returns the numbers from 0 to n - 1.
func subrange(n int) []int {
	var l []int
	for i := range n {
		l = append(l, i)
	}
	return l
}

// P9.4: sets that are not strictly ascending, or of two windows; no such use or member; crowds that are not valid.
func TestBlockEdges(t *testing.T) {
	c := example(t, use(0, 0), use(1, 0), use(1, 0), use(1, 1))
	for i, x := range []struct {
		u, m int
		set  []int
		want bool
	}{
		{0, 0, []int{0, 1, 2}, true}, {0, 1, []int{0, 1, 2}, false}, {0, 2, []int{0}, true}, {0, 0, []int{0}, false},
		{0, 0, []int{0, 2, 1}, false}, {0, 0, []int{1, 1, 2}, false}, {0, 0, []int{0, 1, 1, 2}, false}, {0, 0, nil, false}, {0, 0, []int{0, 1, 2, 3}, false},
		{0, 0, []int{3}, true}, {3, 0, []int{3}, true}, {0, 0, []int{-1, 0, 1, 2}, false}, {0, 0, []int{0, 1, 2, 4}, false},
		{-1, 0, []int{3}, false}, {4, 0, []int{3}, false}, {0, -1, []int{3}, false}, {0, 3, []int{3}, false},
	} {
		if crowd.Blocks(c, x.u, x.m, x.set) != x.want {
			t.Error(i)
		}
	}
	good := example(t, use(0, 0))
	for _, n := range ints {
		if l, ok := crowd.Witness(good, 0, n); ok != (n == 0 || n == 1) || ok != (len(l) == 1) {
			t.Error(n, l)
		}
		if l, ok := crowd.Witness(good, n, 0); ok != (n == 0) || ok != (len(l) == 1) {
			t.Error(n, l)
		}
		if l, ok := crowd.Block(good, 0, n); ok != (n == 2) || ok != (len(l) == 1) {
			t.Error(n, l)
		}
		if l, ok := crowd.Block(good, n, 2); ok != (n == 0) || ok != (len(l) == 1) {
			t.Error(n, l)
		}
	}
	for i, c := range notCrowds(t) {
		l, ok := crowd.Witness(c, 0, 0)
		set, blocked := crowd.Block(c, 0, 2)
		if ok || len(l) > 0 || blocked || len(set) > 0 || crowd.Blocks(c, 0, 2, []int{0}) {
			t.Error(i)
		}
	}
}
