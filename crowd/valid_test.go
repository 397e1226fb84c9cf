package crowd_test

import (
	"fmt"
	"slices"
	"testing"

	"cloak/api"
	"cloak/crowd"
)

// P9.1: a crowd at its limits is valid, and one beyond a limit is not.
func TestValidCrowd(t *testing.T) {
	var binds []api.Bind
	for i := range 300 {
		binds = append(binds, api.Bind{Name: fmt.Sprintf("x.a%d", i), Value: api.MaxValue})
	}
	full := api.Crowd{
		Questions: slices.Repeat(preds(t, "x.a1 >= 18"), 128),
		Members:   slices.Repeat([]api.Member{{Binds: binds, Tickets: slices.Repeat([]int{4096}, 16), Revoked: 16}}, 64),
		Uses:      slices.Repeat([]api.Seen{seen(127, 15, 16, 63)}, 4096),
	}
	for i, c := range []api.Crowd{{}, example(t), example(t, use(0, 0)), full, {Members: make([]api.Member, 3)}} {
		if !crowd.ValidCrowd(c) {
			t.Error(i)
		}
	}
	if m := crowd.Possible(full, 4095); !slices.Equal(m, []int{63}) {
		t.Error(m)
	}
	for i, c := range notCrowds(t) {
		if crowd.ValidCrowd(c) {
			t.Error(i)
		}
	}
}

// P9.1: an eligible member, and each reason why one is not.
func TestEligible(t *testing.T) {
	c := example(t)
	c.Questions = append(c.Questions, preds(t, "x.c <= 5")...)
	for i, x := range []struct {
		use    api.Seen
		member int
		want   bool
	}{
		{use(0, 0), 0, true}, {use(0, 0), 2, false}, {use(1, 0), 2, true}, {use(2, 0), 0, false},
		{use(0, 15), 0, true}, {seen(0, 0, 16, api.None), 0, true},
		{seen(0, 0, 0, api.None), 1, true}, {seen(0, 0, 1, api.None), 1, false}, {seen(0, 0, 16, api.None), 1, false},
		{seen(0, 0, 0, 1), 1, true}, {seen(0, 0, 0, 1), 0, false}, {seen(0, 0, 0, 2), 2, false},
		{use(0, 0), -1, false}, {use(0, 0), 3, false}, {use(0, 0), 64, false}, {use(3, 0), 0, false},
	} {
		if crowd.Eligible(c, x.use, x.member) != x.want {
			t.Error(i)
		}
	}
	for i, u := range notUses() {
		if crowd.Eligible(example(t), u, 0) {
			t.Error(i)
		}
	}
	for i, c := range notCrowds(t) {
		if crowd.Eligible(c, use(0, 0), 0) {
			t.Error(i)
		}
	}
	for _, n := range ints {
		if crowd.Eligible(c, use(0, 0), n) != (n == 0 || n == 1) || crowd.Eligible(c, use(n, 0), 0) != (n == 0 || n == 1) {
			t.Error(n)
		}
	}
}

// P9.1: eligibility is as the definition says, also if the use is not one of the crowd.
func TestEligibleByDefinition(t *testing.T) {
	r := random()
	for range 1000 {
		c := anyCrowd(t, r)
		u := anyUse(r, c)
		for m := range c.Members {
			if crowd.Eligible(c, u, m) != eligibleOf(c, u, m) {
				t.Fatal(c, u, m)
			}
		}
	}
}

// P9.1: exactly the assignments fit, of all lists, some of them with numbers that are no members, or with another length.
func TestFits(t *testing.T) {
	r := random()
	fits := 0
	for range 300 {
		c := anyCrowd(t, r)
		c.Uses = c.Uses[:min(len(c.Uses), 3)]
		for n := range len(c.Uses) + 2 {
			lists(n, -1, len(c.Members)+1, func(l []int) {
				want := isAssignment(c, l)
				if crowd.Fits(c, l) != want {
					t.Fatal(c, l)
				}
				if want {
					fits++
				}
			})
		}
	}
	if fits < 200 {
		t.Error(fits)
	}
	for i, c := range notCrowds(t) {
		if crowd.Fits(c, []int{0, 2}) || crowd.Fits(c, nil) {
			t.Error(i)
		}
	}
}

// P9.1: a member has its tickets for each window, and none for windows without an element of Tickets.
func TestFitsWindows(t *testing.T) {
	c := equals(t, 1, 1, 2)
	for i, x := range []struct {
		windows []int
		want    bool
	}{{nil, true}, {[]int{0}, true}, {[]int{0, 0}, false}, {[]int{1, 0, 1}, true}, {[]int{1, 0, 1, 1}, false}, {[]int{2}, false}, {[]int{15}, false}} {
		c.Uses = nil
		for _, w := range x.windows {
			c.Uses = append(c.Uses, use(0, w))
		}
		if crowd.Fits(c, make([]int, len(c.Uses))) != x.want {
			t.Error(i)
		}
	}
}
