package ticket_test

import (
	"math/rand/v2"
	"slices"
	"strings"
	"testing"

	"cloak/api"
	"cloak/ticket"
)

// P4.10
func TestLendDare(t *testing.T) {
	r := random()
	for _, s := range setups {
		q := s.Group.Q
		tickets := []api.Ticket{{}, {Mark: -1, First: q, Z: 3, A: 4, B: 5, R: -6}, issue(t, r, s, anyPair(r, s)).ticket}
		for _, y := range tickets {
			for _, terms := range []string{"", "a", "two rides", "0:,", string([]byte{0, 255, 10}), strings.Repeat("x", api.MaxText), strings.Repeat("x", api.MaxText+1)} {
				want := q/2 + 1 + hash(list(y.Mark, y.First, y.Z, y.A, y.B, y.R)+encodedText(terms), q-1-q/2)
				if got := ticket.LendDare(s, y, terms); got != want || got <= q/2 || got >= q {
					t.Error(s, y, len(terms), got)
				}
			}
		}
	}
	for _, s := range notSetups {
		if ticket.LendDare(s, api.Ticket{Mark: 8, First: 18, Z: 6, A: 2, B: 13, R: 10}, "") != 0 {
			t.Error(s)
		}
	}
	// All numbers of the upper half occur, and no others.
	seen := map[int]bool{}
	for n := range 200 {
		seen[ticket.LendDare(small, api.Ticket{R: n}, "")] = true
	}
	if len(seen) != 5 || !seen[6] || !seen[10] {
		t.Error(seen)
	}
}

// encodedText returns the encoding of a string.
func encodedText(s string) string {
	digits := list(len(s))
	return digits[2:len(digits)-2] + ":" + s + ","
}

// chain is a chain of links with the keys for which its tickets are valid.
type chain struct {
	setup api.Setup
	keys  []int
	holds []issued
	links []api.Link
	dare  int
}

// anyChain returns a chain of n links that leads to dare. Their tickets are all of one key if n is even.
func anyChain(t *testing.T, r *rand.Rand, s api.Setup, n, dare int) chain {
	t.Helper()
	c := chain{setup: s, dare: dare, holds: make([]issued, n), links: make([]api.Link, n)}
	p := anyPair(r, s)
	for i := n - 1; i >= 0; i-- {
		if n%2 == 1 {
			p = anyPair(r, s)
		}
		x := issue(t, r, s, p)
		l := api.Link{Ticket: x.ticket}
		if i < n-1 {
			l.Terms = strings.Repeat("t", i+1)
			dare = ticket.LendDare(s, c.links[i+1].Ticket, l.Terms)
		}
		l.Spend = use(t, s, x, dare)
		c.holds[i], c.links[i], c.keys = x, l, append(c.keys, p.key)
	}
	return c
}

// follows reports Follows for a chain.
func (c chain) follows() bool { return ticket.Follows(c.setup, c.keys, c.links, c.dare) }

// changed returns a copy of a chain after a change.
func (c chain) changed(change func(c *chain)) chain {
	c.keys, c.links = slices.Clone(c.keys), slices.Clone(c.links)
	for i := range c.links {
		c.links[i].Spend.Answers = slices.Clone(c.links[i].Spend.Answers)
	}
	change(&c)
	return c
}

// P4.10, P4.17: chains of all lengths, and one that is too long.
func TestFollows(t *testing.T) {
	r := random()
	for _, s := range setups {
		for n := 1; n <= api.MaxLinks+2; n++ {
			for _, dare := range []int{1, s.Group.Q - 1} {
				c := anyChain(t, r, s, n, dare)
				if c.follows() != (n <= api.MaxLinks+1) {
					t.Error(s, n, dare)
				}
				slices.Reverse(c.keys)
				more := c.changed(func(c *chain) { c.keys = append([]int{1, 0, -5}, c.keys...) })
				if n <= api.MaxLinks+1 && (!c.follows() || !more.follows()) {
					t.Error(s, n, "keys")
				}
			}
		}
		if ticket.Follows(s, []int{s.Group.G}, nil, 1) || ticket.Follows(s, nil, []api.Link{}, 1) {
			t.Error(s, "no links")
		}
	}
}

// P4.10: in each link, everything matters.
func TestFollowsNot(t *testing.T) {
	r := random()
	for n := 1; n <= api.MaxLinks+1; n++ {
		c := anyChain(t, r, large, n, 77)
		q := large.Group.Q
		last := n - 1
		fails := func(change func(c *chain)) {
			t.Helper()
			if d := c.changed(change); d.follows() {
				t.Error(n, d.keys, d.links, d.dare)
			}
		}
		for i := range n {
			fails(func(c *chain) { c.links[i].Ticket.R = (c.links[i].Ticket.R + 1) % q })
			fails(func(c *chain) { c.links[i].Ticket = api.Ticket{} })
			fails(func(c *chain) { c.links[i].Ticket.First = large.Group.G })
			fails(func(c *chain) { c.links[i].Spend.Answers[0] = (c.links[i].Spend.Answers[0] + 1) % q })
			fails(func(c *chain) { c.links[i].Spend.Answers = nil })
			fails(func(c *chain) { c.links[i].Spend.Dare++ })
			fails(func(c *chain) { c.links[i].Spend = use(t, large, c.holds[i], 78) })
			fails(func(c *chain) { c.links[i].Terms += "more" })
			fails(func(c *chain) {
				key := c.keys[i]
				c.keys = slices.DeleteFunc(c.keys, func(k int) bool { return k == key })
			})
			shorter := c.changed(func(c *chain) { c.links = slices.Delete(c.links, i, i+1) })
			if shorter.follows() != (i == 0 && n > 1) {
				t.Error(n, i, "a link less")
			}
			if i < last {
				fails(func(c *chain) { c.links[i].Terms = c.links[i].Terms[1:] })
				fails(func(c *chain) { c.links[i], c.links[i+1] = c.links[i+1], c.links[i] })
				fails(func(c *chain) { c.links[i].Spend = use(t, large, c.holds[i], c.dare) })
				fails(func(c *chain) {
					// The lending challenge of the own ticket, and of the terms of the next link.
					c.links[i].Spend = use(t, large, c.holds[i], ticket.LendDare(large, c.links[i].Ticket, c.links[i].Terms))
				})
				fails(func(c *chain) {
					c.links[i].Spend = use(t, large, c.holds[i], ticket.LendDare(large, c.links[i+1].Ticket, c.links[i+1].Terms))
				})
			}
		}
		for _, d := range []int{76, 0, -1, 78, 77 + q, 77 - q} {
			fails(func(c *chain) { c.dare = d })
		}
		fails(func(c *chain) { c.keys = nil })
		fails(func(c *chain) { c.keys = []int{1} })
		fails(func(c *chain) { c.setup.Blind = 1 })
		fails(func(c *chain) { c.setup = api.Setup{} })
		fails(func(c *chain) { c.links = append(c.links, c.links[last]) })
	}
	for _, s := range notSetups {
		c := anyChain(t, r, small, 1, 4)
		c.setup = s
		if c.follows() {
			t.Error(s)
		}
	}
}

// P4.10: the challenges 0 and -1 are none, even if a spend for them says so.
func TestFollowsDares(t *testing.T) {
	c := anyChain(t, random(), small, 1, 4)
	y := c.holds[0]
	for _, dare := range []int{0, 11, 15, -7} {
		c.dare = dare
		c.links[0].Spend.Dare = dare
		for i, e := range ones(y.session.Attrs) {
			c.links[0].Spend.Answers[i] = (y.blinding.Ys[i] + residue(11, dare, y.blinding.S, e)) % 11
		}
		if c.follows() {
			t.Error(dare)
		}
	}
}

// P4.10: the greatest number of bytes of terms.
func TestLongTerms(t *testing.T) {
	r := random()
	for _, x := range []struct {
		size int
		want bool
	}{{0, true}, {1, true}, {api.MaxText, true}, {api.MaxText + 1, false}} {
		c := anyChain(t, r, large, 2, 5)
		c.links[0].Terms = strings.Repeat("x", x.size)
		c.links[0].Spend = use(t, large, c.holds[0], ticket.LendDare(large, c.links[1].Ticket, c.links[0].Terms))
		if c.follows() != x.want {
			t.Error(x)
		}
	}
}

// P4.17: other terms, or another next ticket, do if and only if the lending challenge is the same.
func TestReplacedLinks(t *testing.T) {
	r := random()
	for _, s := range []api.Setup{tiny, small, large} {
		did, not := 0, 0
		check := func(c chain, want bool) {
			t.Helper()
			if c.follows() != want {
				t.Error(s, c)
			}
			if want {
				did++
			} else {
				not++
			}
		}
		for range 20 {
			c := anyChain(t, r, s, 3, 1)
			own := ticket.LendDare(s, c.links[1].Ticket, c.links[0].Terms)
			for _, terms := range []string{"", "x", "y", "z"} {
				d := c.changed(func(c *chain) { c.links[0].Terms = terms })
				check(d, ticket.LendDare(s, c.links[1].Ticket, terms) == own)
			}
			x := issue(t, r, s, anyPair(r, s))
			d := c.changed(func(c *chain) {
				c.keys = append(c.keys, keyOf(s, x.ticket))
				c.links[1].Ticket = x.ticket
				c.links[1].Spend = use(t, s, x, c.links[1].Spend.Dare)
			})
			check(d, ticket.LendDare(s, x.ticket, c.links[0].Terms) == own)
		}
		if not == 0 || did == 0 && s.Group.Q < 100 || did > 0 && s.Group.Q > 100 {
			t.Error(s, did, not)
		}
	}
}

// keyOf returns the only key for which a ticket can be valid: the root of G^R / A.
func keyOf(s api.Setup, y api.Ticket) int {
	g := s.Group
	return power(g, residue(g.P, power(g, g.G, y.R), power(g, y.A, -1)), quotient(g.Q, 1, innerOf(s, y)))
}
