package crowd_test

import (
	"math/rand/v2"
	"slices"
	"strconv"
	"testing"

	"cloak/api"
	"cloak/ask"
	"cloak/crowd"
)

// count returns the number of assignments of a crowd.
func count(t *testing.T, c api.Crowd) int {
	t.Helper()
	n, e := crowd.Count(c)
	if e != api.OK {
		t.Fatal(c, e)
	}
	return n
}

// subset reports whether all elements of a list are in another one.
func subset(a, b []int) bool {
	return !slices.ContainsFunc(a, func(x int) bool { return !slices.Contains(b, x) })
}

// P9.13: the groups are independent of each other.
func TestGroupsAreIndependent(t *testing.T) {
	r := random()
	both := 0
	for range 1000 {
		c := anyCrowd(t, r)
		product := 1
		sets := crowd.Sets(c)
		for w := range 2 {
			part := c
			part.Uses = nil
			for _, u := range groupOf(c, w) {
				part.Uses = append(part.Uses, c.Uses[u])
			}
			product *= count(t, part)
			if len(assignments(c)) == 0 {
				continue
			}
			for i, u := range groupOf(c, w) {
				if !slices.Equal(sets[u], crowd.Possible(part, i)) {
					t.Fatal(c, u)
				}
			}
		}
		if n := count(t, c); n != product {
			t.Fatal(c, n, product)
		}
		if product > 0 && len(groupOf(c, 0)) > 0 && len(groupOf(c, 1)) > 0 {
			both++
		}
	}
	if both < 100 {
		t.Error(both)
	}
}

// P9.14: a further use makes no set larger; more tickets and a further member make none smaller, and more tickets leave as many assignments.
func TestMonotone(t *testing.T) {
	r := random()
	changed := 0
	for range 1000 {
		c := anyCrowd(t, r)
		sets := crowd.Sets(c)
		used, rich, joined := withUse(c, anyUse(r, c)), c, c
		rich.Members = slices.Clone(c.Members)
		for i := range rich.Members {
			rich.Members[i].Tickets = append(slices.Clone(c.Members[i].Tickets), r.IntN(2))
			rich.Members[i].Tickets[0] += r.IntN(2)
		}
		joined.Members = append(slices.Clone(c.Members), member(1, 1, api.None, 1, 1))
		after, more, further := crowd.Sets(used), crowd.Sets(rich), crowd.Sets(joined)
		for u := range c.Uses {
			if !subset(after[u], sets[u]) || !subset(sets[u], more[u]) || !subset(sets[u], further[u]) {
				t.Fatal(c, u)
			}
			if len(after[u]) < len(sets[u]) {
				changed++
			}
		}
		if count(t, rich) < count(t, c) {
			t.Fatal(c)
		}
	}
	if changed < 100 {
		t.Error(changed)
	}
}

// P9.15: the order of uses and of members has no effect except on their indices.
func TestOrder(t *testing.T) {
	r := random()
	for range 1000 {
		c := anyCrowd(t, r)
		uses, members := r.Perm(len(c.Uses)), r.Perm(len(c.Members)) // by new index, the old one
		d := api.Crowd{Questions: c.Questions}
		for _, m := range members {
			d.Members = append(d.Members, c.Members[m])
		}
		for _, u := range uses {
			x := c.Uses[u]
			if x.Holder != api.None {
				x.Holder = slices.Index(members, x.Holder)
			}
			d.Uses = append(d.Uses, x)
		}
		if count(t, c) != count(t, d) {
			t.Fatal(c, d)
		}
		sets := crowd.Sets(c)
		for i, u := range uses {
			var old []int
			for _, m := range crowd.Possible(d, i) {
				old = append(old, members[m])
			}
			slices.Sort(old)
			if !slices.Equal(old, sets[u]) {
				t.Fatal(c, d, u)
			}
			shares, _ := crowd.Shares(d, i)
			before, _ := crowd.Shares(c, u)
			for k, m := range members {
				if shares[k] != before[m] {
					t.Fatal(c, d, u)
				}
			}
		}
	}
}

// P9.16: whoever is told for a question is told for each question that it implies.
func TestImplied(t *testing.T) {
	r := random()
	implied, smaller := 0, 0
	for range 1500 {
		c := anyCrowd(t, r)
		for i := range c.Members {
			c.Members[i].Binds = append(c.Members[i].Binds[:2], api.Bind{Name: "x.c", Value: r.IntN(8)})
		}
		c.Questions = append(c.Questions, preds(t, "x.a >= 2", "x.a = 1 and x.b = 2")...)
		p, q := r.IntN(8), r.IntN(8)
		if _, ok, e := ask.Implies(c.Questions[p], c.Questions[q], api.MaxValue); !ok || e != api.OK || p == q {
			continue
		}
		u := anyUse(r, c)
		v := u
		u.Question, v.Question = p, q
		if !subset(crowd.Told(c, u), crowd.Told(c, v)) {
			t.Fatal(c, u, v)
		}
		if implied++; len(crowd.Told(c, u)) < len(crowd.Told(c, v)) {
			smaller++
		}
	}
	if implied < 200 || smaller < 30 {
		t.Error(implied, smaller)
	}
}

// crowded returns a crowd of 64 members and 4096 uses, for which all tickets are needed, and who made each of them.
// The members are eight blocks. The questions hold for those of a block, some of them also for those of all blocks before it, whose tickets are used up by their own uses.
func crowded(t *testing.T, r *rand.Rand, windows int) (api.Crowd, []int) {
	t.Helper()
	var c api.Crowd
	for q := range 64 {
		low := q / 8 * 8
		c.Questions = append(c.Questions, preds(t, "x.id in { "+strconv.Itoa(low*(q%2))+" .. "+strconv.Itoa(low+7)+" }")...)
	}
	for m := range 64 {
		c.Members = append(c.Members, api.Member{Binds: []api.Bind{{Name: "x.id", Value: m}}, Tickets: make([]int, windows), Revoked: api.None})
	}
	var made []int
	for range 4096 {
		m := r.IntN(64)
		u := use(m/8*8+r.IntN(8), r.IntN(windows))
		c.Members[m].Tickets[u.Window]++
		c.Uses, made = append(c.Uses, u), append(made, m)
	}
	return c, made
}

// P9.12, P9.4: in crowds of full size, each possible member has a witness, and each other member a set that blocks it.
func TestLargeCrowds(t *testing.T) {
	r := random()
	for _, windows := range []int{1, 16} {
		c, made := crowded(t, r, windows)
		sets := crowd.Sets(c)
		if !crowd.Fits(c, made) || len(sets) != 4096 {
			t.Fatal(len(sets))
		}
		possible, blocked := 0, 0
		for range 30 {
			u := r.IntN(4096)
			if !slices.Contains(sets[u], made[u]) {
				t.Fatal(u, sets[u])
			}
			q := crowd.Common(c, []int{c.Uses[u].Question})
			m := q[r.IntN(len(q))]
			l, ok := crowd.Witness(c, u, m)
			set, is := crowd.Block(c, u, m)
			if ok != slices.Contains(sets[u], m) || ok == is || ok && (l[u] != m || !crowd.Fits(c, l)) || is && !crowd.Blocks(c, u, m, set) {
				t.Fatal(u, m, ok, is)
			}
			if ok {
				possible++
			} else if len(set) > 1 {
				blocked++
			}
		}
		if possible < 5 || blocked < 5 {
			t.Error(possible, blocked)
		}
	}
}

// P9.2, P9.12: in a larger crowd, each element of the first assignment is the first member that nothing blocks, given the elements before it.
func TestFirstOfMany(t *testing.T) {
	r := random()
	for range 5 {
		c := api.Crowd{}
		for range 8 {
			c.Questions = append(c.Questions, preds(t, "x.id in { "+strconv.Itoa(r.IntN(10))+", "+strconv.Itoa(r.IntN(10))+", "+strconv.Itoa(r.IntN(10))+" }")...)
		}
		for m := range 10 {
			c.Members = append(c.Members, api.Member{Binds: []api.Bind{{Name: "x.id", Value: m}}, Tickets: []int{r.IntN(6), 3}, Revoked: api.None})
		}
		for range 200 {
			if u := use(r.IntN(8), r.IntN(2)); len(crowd.Told(c, u)) > 0 {
				c.Uses = append(c.Uses, u)
			}
		}
		first, ok := crowd.Assign(c, free(len(c.Uses)))
		if !ok || !crowd.Fits(c, first) || len(first) < 20 {
			t.Fatal(c, first)
		}
		for u, m := range first {
			for before := range m {
				if set, blocked := crowd.Block(c, u, before); !blocked || !crowd.Blocks(c, u, before, set) {
					t.Fatal(c, first, u, before)
				}
			}
			c.Uses[u].Holder = m
		}
	}
}
