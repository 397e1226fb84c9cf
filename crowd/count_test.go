package crowd_test

import (
	"math/bits"
	"slices"
	"strconv"
	"testing"

	"cloak/api"
	"cloak/crowd"
)

// P9.5, P9.12, P9.15, T8: Count and Shares agree with the enumeration; the shares add up to the count, and are 0 for those who are not possible.
func TestCount(t *testing.T) {
	r := random()
	many := 0
	for range 3000 {
		c := anyCrowd(t, r)
		all := assignments(c)
		n, e := crowd.Count(c)
		if n != len(all) || e != api.OK {
			t.Fatal(c, n, e)
		}
		if n > 3 {
			many++
		}
		for u := range c.Uses {
			want := make([]int, len(c.Members))
			for _, l := range all {
				want[l[u]]++
			}
			got, e := crowd.Shares(c, u)
			if !slices.Equal(got, want) || e != api.OK {
				t.Fatal(c, u, got, want, e)
			}
			sum, possible := 0, []int{}
			for m, s := range got {
				if sum += s; s > 0 {
					possible = append(possible, m)
				}
			}
			if sum != n || !slices.Equal(possible, crowd.Possible(c, u)) {
				t.Fatal(c, u, got)
			}
		}
	}
	if many < 200 {
		t.Error(many)
	}
}

// withUses returns the crowd with numbers of uses of the first question in the windows from 0 on.
func withUses(c api.Crowd, numbers ...int) api.Crowd {
	c.Uses = nil
	for w, n := range numbers {
		c.Uses = append(c.Uses, slices.Repeat([]api.Seen{use(0, w)}, n)...)
	}
	return c
}

// P9.5: groups with 12 and with 13 uses, and numbers of assignments up to 2^60 and beyond.
func TestCountLimits(t *testing.T) {
	two, four, all := equals(t, 2, 7, 7, 7, 7, 7, 7, 7), equals(t, 4, 12, 12, 12), equals(t, 64, 12, 12)
	three := equals(t, 3, 12, 12, 12, 12)
	for i, x := range []struct {
		c    api.Crowd
		want int
		e    api.Errno
	}{
		{withUses(four), 1, api.OK},
		{withUses(four, 12), 1 << 24, api.OK},
		{withUses(four, 13), 0, api.ErrFull},
		{withUses(four, 0, 12, 1), 1 << 26, api.OK},
		{withUses(four, 12, 12, 6), 1 << 60, api.OK},
		{withUses(four, 12, 12, 7), 0, api.ErrFull},
		{withUses(all, 10), 1 << 60, api.OK},
		{withUses(all, 11), 0, api.ErrFull},
		{withUses(all, 5, 5), 1 << 60, api.OK},
		{withUses(all, 6, 5), 0, api.ErrFull},
		{withUses(all, 12, 12), 0, api.ErrFull},
		{withUses(three, 12, 12, 12, 1), 450283905890997363, api.OK}, // 3^37
		{withUses(three, 12, 12, 12, 2), 0, api.ErrFull},             // 3^38 is greater than 2^60, but less than 2^61
		{withUses(two, 7, 7, 7, 7, 7, 7, 7), 1 << 49, api.OK},
		{withUses(equals(t, 1, 12), 12), 1, api.OK},
		{withUses(equals(t, 1, 11), 12), 0, api.OK},
		{withUses(equals(t, 1, 11), 13), 0, api.ErrFull},
		{withUses(api.Crowd{Questions: preds(t, "0 <= 0")}, 1), 0, api.OK},
		{withUses(api.Crowd{Questions: preds(t, "0 <= 0")}, 13), 0, api.ErrFull},
		{api.Crowd{}, 1, api.OK},
		{withUses(all, 12, 0, 1), 0, api.OK},      // 2^72 assignments of one group, and none of the other
		{withUses(all, 12, 12, 1), 0, api.OK},     // their product is 0 as well
		{withUses(all, 1, 1, 13), 0, api.ErrFull}, // more uses than are counted, though nobody can have made them
	} {
		n, e := crowd.Count(x.c)
		if n != x.want || e != x.e {
			t.Error(i, n, e)
		}
		if len(x.c.Uses) == 0 {
			continue
		}
		shares, f := crowd.Shares(x.c, 0)
		sum := 0
		for _, s := range shares {
			sum += s
		}
		if f != x.e || sum != x.want || f == api.OK && len(shares) != len(x.c.Members) || f != api.OK && len(shares) > 0 {
			t.Error(i, shares, f)
		}
	}
}

// P9.5: no such use, and crowds that are not valid, come before what is too much to count.
func TestCountErrors(t *testing.T) {
	c := withUses(equals(t, 4, 20), 13)
	for _, n := range ints {
		want := api.ErrArg
		if n >= 0 && n < 13 {
			want = api.ErrFull
		}
		if l, e := crowd.Shares(c, n); len(l) > 0 || e != want {
			t.Error(n, l, e)
		}
	}
	for i, c := range notCrowds(t) {
		n, e := crowd.Count(c)
		l, f := crowd.Shares(c, 0)
		if n != 0 || e != api.ErrArg || len(l) > 0 || f != api.ErrArg {
			t.Error(i, n, e, l, f)
		}
	}
}

// P9.5, P9.12: numbers that are known without enumeration: ways to give tickets that each member has one of, or two.
func TestCountClosed(t *testing.T) {
	one := 1
	for uses := range 10 {
		if n, e := crowd.Count(withUses(equals(t, 64, 1), uses)); n != one || e != api.OK {
			t.Error(uses, n, e)
		}
		one *= 64 - uses
	}
	// At most two of 12 uses for each of 6 members: 12! / 2^6.
	if n, e := crowd.Count(withUses(equals(t, 6, 2), 12)); n != 479001600/64 || e != api.OK {
		t.Error(n, e)
	}
	shares, e := crowd.Shares(withUses(equals(t, 6, 2), 12), 11)
	if !slices.Equal(shares, slices.Repeat([]int{479001600 / 64 / 6}, 6)) || e != api.OK {
		t.Error(shares, e)
	}
}

// manyWays returns the number of assignments of a single group modulo 2^64: the alternating sum, over all sets of its uses, of the ways to give as many uses of the set as there are uses, each member different ones.
func manyWays(c api.Crowd) int {
	n := len(c.Uses)
	total := 0
	for set := range 1 << n {
		ways := make([]int, n+1) // by number of uses given
		ways[0] = 1
		for m := range c.Members {
			open := 0
			for i, u := range c.Uses {
				if set>>i&1 == 1 && eligibleOf(c, u, m) {
					open++
				}
			}
			next := make([]int, n+1)
			for given, w := range ways {
				choose := 1
				for k := 0; k <= ticketsIn(c, m, 0) && given+k <= n; k++ {
					next[given+k] += w * choose
					choose = choose * (open - k) / (k + 1)
				}
			}
			ways = next
		}
		if (n-bits.OnesCount(uint(set)))%2 == 0 {
			total += ways[n]
		} else {
			total -= ways[n]
		}
	}
	return total
}

// P9.5, P9.12: groups of up to 12 uses with different members agree with another way to count them.
func TestCountBySums(t *testing.T) {
	r := random()
	great := 0
	for range 25 {
		c := api.Crowd{}
		for u := range 6 + r.IntN(7) {
			c.Questions = append(c.Questions, preds(t, "x.q"+strconv.Itoa(u)+" = 0")...)
			c.Uses = append(c.Uses, use(u, 0))
		}
		for range 1 + r.IntN(20) {
			m := api.Member{Revoked: api.None, Tickets: []int{r.IntN(5)}}
			for u := range c.Uses {
				m.Binds = append(m.Binds, api.Bind{Name: "x.q" + strconv.Itoa(u), Value: r.IntN(4) / 3})
			}
			c.Members = append(c.Members, m)
		}
		want := manyWays(c)
		n, e := crowd.Count(c)
		if n != want || e != api.OK {
			t.Fatal(c, n, want, e)
		}
		if n > 1<<24 {
			great++
		}
		u := r.IntN(len(c.Uses))
		shares, e := crowd.Shares(c, u)
		if e != api.OK || len(shares) != len(c.Members) {
			t.Fatal(c, u, e)
		}
		for m, s := range shares {
			given := c
			given.Uses = slices.Clone(c.Uses)
			given.Uses[u].Holder = m
			if n, e := crowd.Count(given); n != s || e != api.OK {
				t.Fatal(c, u, m, s, n)
			}
		}
	}
	if great < 5 {
		t.Error(great)
	}
}
