package crowd_test

import (
	"math/bits"
	"slices"
	"testing"

	"cloak/api"
	"cloak/ask"
	"cloak/crowd"
)

// holders returns the members for which a question holds, by the definition.
func holders(c api.Crowd, q int) []int {
	var r []int
	for m := range c.Members {
		if holds, _ := ask.Holds(c.Questions[q], c.Members[m].Binds); holds {
			r = append(r, m)
		}
	}
	return r
}

// P9.6, P9.17: Common and Union agree with the definition, also for questions that are given several times; inclusion and exclusion.
func TestCommonAndUnion(t *testing.T) {
	r := random()
	lacking := 0
	for range 500 {
		c := anyCrowd(t, r)
		var questions []int
		for range r.IntN(6) {
			questions = append(questions, r.IntN(6))
		}
		common, union := subrange(len(c.Members)), 0
		for m := range c.Members {
			some := false
			for _, q := range questions {
				if slices.Contains(holders(c, q), m) {
					some = true
				} else {
					common = slices.DeleteFunc(common, func(x int) bool { return x == m })
				}
			}
			if some {
				union++
			}
			if len(c.Members[m].Binds) == 2 && slices.Contains(questions, 5) {
				lacking++
			}
		}
		got := crowd.Common(c, questions)
		n, ok := crowd.Union(c, questions)
		if !slices.Equal(got, common) || n != union || !ok {
			t.Fatal(c, questions, got, n, ok)
		}
		sum := 0
		for set := 1; set < 1<<len(questions); set++ {
			var l []int
			for i, q := range questions {
				if set>>i&1 == 1 {
					l = append(l, q)
				}
			}
			sign := 2*(bits.OnesCount(uint(set))%2) - 1
			sum += sign * len(crowd.Common(c, l))
		}
		if sum != n {
			t.Fatal(c, questions, sum, n)
		}
	}
	if lacking < 50 {
		t.Error(lacking)
	}
}

// P9.6: the document's example, no questions, indices that are none, and crowds that are not valid.
func TestCommonEdges(t *testing.T) {
	c := example(t, seen(0, 0, 1, 2))
	for i, x := range []struct {
		questions, common []int
		union             int
		ok                bool
	}{
		{[]int{0, 1}, []int{0}, 3, true}, {nil, []int{0, 1, 2}, 0, true}, {[]int{0}, []int{0, 1}, 2, true}, {[]int{1, 1, 1}, []int{0, 2}, 2, true},
		{[]int{0, 2}, nil, 0, false}, {[]int{-1, 0}, nil, 0, false},
	} {
		n, ok := crowd.Union(c, x.questions)
		if l := crowd.Common(c, x.questions); !slices.Equal(l, x.common) || n != x.union || ok != x.ok {
			t.Error(i, l, n, ok)
		}
	}
	all := equals(t, 64)
	if n, ok := crowd.Union(all, []int{0}); n != 64 || !ok || len(crowd.Common(all, nil)) != 64 || len(crowd.Common(all, []int{0, 0})) != 64 {
		t.Error(n, ok)
	}
	if n, ok := crowd.Union(api.Crowd{}, nil); n != 0 || !ok {
		t.Error(n, ok)
	}
	for _, n := range ints {
		k, ok := crowd.Union(c, []int{1, n})
		if l := crowd.Common(c, []int{1, n}); ok != (n == 0 || n == 1) || ok != (len(l) > 0) || ok != (k > 0) {
			t.Error(n, l, k)
		}
	}
	for i, c := range notCrowds(t) {
		if n, ok := crowd.Union(c, []int{0}); n != 0 || ok || len(crowd.Common(c, nil)) > 0 {
			t.Error(i, n)
		}
	}
}
