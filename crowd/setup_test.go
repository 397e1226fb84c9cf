package crowd_test

import (
	"math"
	"math/rand/v2"
	"slices"
	"testing"

	"cloak/api"
	"cloak/ask"
)

// ints are numbers at which something could go wrong.
var ints = []int{math.MinInt, math.MinInt + 1, -1 << 40, -65, -2, -1, 0, 1, 2, 3, 12, 15, 16, 17, 63, 64, 65, 127, 128, 4095, 4096, 4097, 1 << 40, 1 << 60, math.MaxInt}

// random returns random numbers, which are the same in each run.
func random() *rand.Rand { return rand.New(rand.NewPCG(9, 9)) }

// preds returns the predicates of source texts.
func preds(t testing.TB, texts ...string) []api.Pred {
	t.Helper()
	var l []api.Pred
	for _, s := range texts {
		_, p, at, e := ask.Parse("question q { " + s + " }")
		if e != api.OK {
			t.Fatal(s, at, e)
		}
		l = append(l, p)
	}
	return l
}

// member returns a member with values of x.a and x.b, an entry of the revocation log and tickets.
func member(a, b, revoked int, tickets ...int) api.Member {
	return api.Member{Binds: []api.Bind{{Name: "x.a", Value: a}, {Name: "x.b", Value: b}}, Tickets: tickets, Revoked: revoked}
}

// use returns a use of a question in a window that was not opened.
func use(question, window int) api.Seen { return seen(question, window, 0, api.None) }

// seen returns a use of a question in a window, as of an entry of the revocation log, of a holder.
func seen(question, window, asOf, holder int) api.Seen {
	return api.Seen{Question: question, Window: window, AsOf: asOf, Holder: holder}
}

// example returns the crowd of the document's examples.
func example(t testing.TB, uses ...api.Seen) api.Crowd {
	t.Helper()
	return api.Crowd{
		Questions: preds(t, "x.a >= 18", "x.b = 1"),
		Members:   []api.Member{member(20, 1, api.None, 1), member(30, 2, 0, 1), member(17, 1, api.None, 1)},
		Uses:      uses,
	}
}

// equals returns n members, all of which have the same tickets, and the only question `0 <= 0`.
func equals(t testing.TB, n int, tickets ...int) api.Crowd {
	t.Helper()
	c := api.Crowd{Questions: preds(t, "0 <= 0")}
	for range n {
		c.Members = append(c.Members, member(1, 1, api.None, tickets...))
	}
	return c
}

// anyUse returns a valid use of a crowd with six questions, at random.
func anyUse(r *rand.Rand, c api.Crowd) api.Seen {
	u := seen(r.IntN(6), r.IntN(2), r.IntN(3), api.None)
	if r.IntN(12) == 0 && len(c.Members) > 0 {
		u.Holder = r.IntN(len(c.Members))
	}
	return u
}

// anyCrowd returns a valid crowd with six questions, a few members and a few uses, at random.
func anyCrowd(t testing.TB, r *rand.Rand) api.Crowd {
	t.Helper()
	c := api.Crowd{Questions: preds(t, "x.a >= 1", "x.a <= 1 or x.b = 0", "x.b <= 1", "x.a <= x.b", "0 <= 0", "x.c <= 5")}
	for range max(r.IntN(6), r.IntN(5)-1) {
		m := member(r.IntN(3), r.IntN(3), r.IntN(4)-1, r.IntN(4), r.IntN(3))
		if r.IntN(4) > 0 {
			m.Revoked = api.None
		}
		if r.IntN(3) > 0 {
			m.Binds = append(m.Binds, api.Bind{Name: "x.c", Value: r.IntN(8)})
		}
		m.Tickets = m.Tickets[:1+r.IntN(2)]
		c.Members = append(c.Members, m)
	}
	for range r.IntN(6) {
		c.Uses = append(c.Uses, anyUse(r, c))
	}
	return c
}

// notCrowds returns crowds that are not valid, each for one reason.
func notCrowds(t testing.TB) []api.Crowd {
	t.Helper()
	var l []api.Crowd
	add := func(change func(c *api.Crowd)) {
		c := example(t, use(0, 0), use(1, 0))
		change(&c)
		l = append(l, c)
	}
	add(func(c *api.Crowd) { c.Questions = slices.Repeat(c.Questions, 65)[:129] })
	add(func(c *api.Crowd) { c.Questions[1].Kids = nil })
	add(func(c *api.Crowd) { c.Questions = append(c.Questions, api.Pred{Left: "x"}) })
	add(func(c *api.Crowd) { c.Members = slices.Repeat(c.Members, 22)[:65] })
	add(func(c *api.Crowd) { c.Members[2].Binds[1].Name = "x.a" })
	add(func(c *api.Crowd) { c.Members[0].Binds[0].Value = api.MaxValue + 1 })
	add(func(c *api.Crowd) { c.Members[1].Tickets = make([]int, 17) })
	add(func(c *api.Crowd) { c.Members[1].Tickets = []int{1, -1} })
	add(func(c *api.Crowd) { c.Members[1].Tickets = []int{1, 4097} })
	add(func(c *api.Crowd) { c.Members[2].Revoked = -2 })
	add(func(c *api.Crowd) { c.Members[2].Revoked = 17 })
	add(func(c *api.Crowd) { c.Uses = slices.Repeat(c.Uses[:1], 4097) })
	for _, u := range notUses() {
		add(func(c *api.Crowd) { c.Uses[1] = u })
	}
	return l
}

// notUses returns uses that are not valid for the crowd of the document's examples.
func notUses() []api.Seen {
	return []api.Seen{use(-1, 0), use(2, 0), use(0, -1), use(0, 16), seen(0, 0, -1, api.None), seen(0, 0, 17, api.None), seen(0, 0, 0, -2), seen(0, 0, 0, 3)}
}
