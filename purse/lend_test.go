package purse_test

import (
	"math/rand/v2"
	"slices"
	"testing"

	"cloak/api"
	"cloak/base"
	"cloak/purse"
	"cloak/ticket"
)

// P7.8: errors, in their order, and which ticket is lent.
func TestLend(t *testing.T) {
	s := middle()
	l := four(s)
	_, p := filled(t, s, someLimits(), l...)
	next := api.Ticket{Mark: -5, R: 1 << 60} // any ticket
	for i, c := range []struct {
		limit, now int
		terms      string
		want       int
		e          api.Errno
	}{
		{3, 2900, "9;0:,", 0, api.ErrArg}, {-1, 2900, "9;0:,", 0, api.ErrArg}, {0, -1, "", 0, api.ErrArg}, {0, 1<<31 + 1, "", 0, api.ErrArg}, {2, 0, "", 0, api.ErrOver}, {0, 2879, "x", 0, api.ErrOver}, {1, 0, "", 0, api.ErrForm}, {1, 0, "9;0:,x", 0, api.ErrForm}, {1, 0, "2147483649;0:,", 0, api.ErrForm},
		{0, 4320, "9;4:pool,", 1, api.OK}, {0, 4320, "9;4:pool,", 0, api.ErrOver}, {1, 0, "2147483648;0:,", 2, api.OK}, {1, 1 << 31, "0;0:,", 3, api.OK}, {1, 0, "x", 0, api.ErrOver}, {0, 2880, "", 0, api.ErrForm}, {0, 2880, "9;0:,", 0, api.OK},
	} {
		got, links, e := p.Lend(c.limit, c.now, next, c.terms)
		if got != c.want || e != c.e || (len(links) == 1) != (e == api.OK) || e != api.OK && len(links) > 0 {
			t.Error(i, got, links, e)
		}
		if e != api.OK {
			continue
		}
		dare := ticket.LendDare(s, next, c.terms)
		x, a := links[0], p.Items()[got]
		if x.Ticket != l[got].Ticket || x.Terms != c.terms || x.Spend.Dare != dare || !ticket.Accepts(s, x.Ticket, x.Spend) || a.Status != api.PuReserved || a.Dare != dare || !a.Lent || a.Back {
			t.Error(i, x, a)
		}
		if y, e := p.Answer(got); e != api.OK || !sameSpends(y, x.Spend) {
			t.Error(i, y, e)
		}
	}
}

// P7.8: borrowed tickets are lent on under narrower terms alone, and at most MaxLinks times; the error of the terms comes first.
func TestLendOn(t *testing.T) {
	r, s := random(), middle()
	for i, c := range []struct {
		links       int
		last, terms string
		e           api.Errno
	}{
		{1, "9;4:pool,", "10;4:pool,", api.ErrForm}, {1, "9;4:pool,", "8;0:,", api.ErrForm}, {1, "9;4:pool,", "8;4:book,", api.ErrForm}, {1, "9;4:pool,", "x", api.ErrForm}, {1, "9;4:pool,", "8;4:pool,", api.OK}, {1, "9;4:pool,", "9;4:pool,", api.OK}, {1, "9;0:,", "9;4:pool,", api.OK},
		// What the links had before the last one does not matter; a last one without terms cannot be narrowed.
		{3, "9;4:pool,", "9;4:pool,", api.OK}, {3, "9;4:pool,", "10;4:pool,", api.ErrForm}, {1, "", "9;0:,", api.ErrForm}, {2, "x", "9;0:,", api.ErrForm}, {1, "", "", api.ErrForm},
		{4, "9;4:pool,", "9;4:pool,", api.ErrFull}, {4, "9;4:pool,", "10;4:pool,", api.ErrForm}, {4, "", "9;0:,", api.ErrForm}, {4, "9;4:pool,", "", api.ErrForm},
	} {
		h := anyHeld(r, s, 1, 0)
		h.Links = anyLinks(r, c.links)
		h.Links[c.links-1].Terms = c.last
		_, p := filled(t, s, someLimits(), h)
		k, links, e := p.Lend(1, 0, api.Ticket{}, c.terms)
		if k != 0 || e != c.e {
			t.Error(i, k, e)
		}
		if e != api.OK {
			if x := p.Items()[0]; len(links) > 0 || x.Status != api.PuFree || x.Lent || p.Left(1, 0) != 1 {
				t.Error(i, links, x)
			}
			continue
		}
		x := api.Link{Ticket: h.Ticket, Terms: c.terms}
		x.Spend, _ = ticket.Use(s, h.Attrs, h.Blinding, ticket.LendDare(s, api.Ticket{}, c.terms))
		if linksText(links) != linksText(append(slices.Clone(h.Links), x)) || encoded(p.Items()[0].Held) != encoded(h) {
			t.Error(i, links)
		}
	}
}

// borrow returns the ticket of a borrower with the links that a lender has returned.
func borrow(h api.Held, links []api.Link) api.Held {
	h.Links = links
	return h
}

// P7.8, P7.19, P7.22: signed tickets, lent from purse to purse; the last one of them is used.
func TestChains(t *testing.T) {
	r := random()
	keep := []string{"100;0:,", "100;0:,", "90;4:pool,", "90;4:pool,", "0;4:pool,"}
	for round := range 60 {
		s := setups()[round%4]
		var secrets, keys []int
		for range 5 {
			x := 1 + r.IntN(s.Group.Q-1)
			secrets, keys = append(secrets, x), append(keys, ticket.Public(s, x))
		}
		held := issue(t, r, s, secrets[0], 0, 2, anyAttrs(r, s))
		n := round % 5
		for i := range n {
			next := issue(t, r, s, secrets[i+1], 0, 2, anyAttrs(r, s))
			d, p := filled(t, s, someLimits(), held)
			if r.IntN(2) > 0 {
				p = open(t, d, s, someLimits())
			}
			k, links, e := p.Lend(0, 2900, next.Ticket, keep[i])
			if k != 0 || e != api.OK || len(links) != i+1 {
				t.Fatal(s, i, e)
			}
			for k := range links[1:] {
				if !purse.Narrows(links[k+1].Terms, links[k].Terms) {
					t.Error(links)
				}
			}
			held = borrow(next, links)
		}
		_, p := filled(t, s, someLimits(), held)
		dare := 1 + r.IntN(s.Group.Q-1)
		k, e := p.Reserve(0, 2900, dare)
		x, f := p.Answer(k)
		if e != api.OK || f != api.OK || !ticket.Accepts(s, held.Ticket, x) {
			t.Fatal(s, held, e, f)
		}
		chain := append(p.Items()[0].Held.Links, api.Link{Ticket: held.Ticket, Spend: x})
		if !ticket.Follows(s, keys[:n+1], chain, dare) {
			t.Error(s, chain)
		}
	}
}

// P7.22: the last terms of what Lend returns narrow those before them, whatever the links were; all of them are narrower if this holds of the links.
func TestTermsOfChains(t *testing.T) {
	r, s := random(), small()
	lent := 0
	for range 400 {
		h := anyHeld(r, s, 1, 0)
		h.Links = anyLinks(r, r.IntN(5))
		ordered := true
		for i, x := range h.Links {
			_, _, ok := purse.ReadTerms(x.Terms)
			ordered = ordered && ok && (i == 0 || purse.Narrows(x.Terms, h.Links[i-1].Terms))
		}
		_, p := filled(t, s, someLimits(), h)
		_, links, e := p.Lend(1, 0, api.Ticket{}, purse.Terms(99+r.IntN(3), []string{"", "pool", "book"}[r.IntN(3)]))
		if e != api.OK {
			continue
		}
		lent++
		for i := range links {
			_, _, ok := purse.ReadTerms(links[i].Terms)
			narrow := ok && (i == 0 || purse.Narrows(links[i].Terms, links[i-1].Terms))
			if (ordered || i == len(links)-1) && !narrow {
				t.Error(links)
			}
		}
	}
	if lent < 100 {
		t.Error(lent)
	}
}

// P7.19: copies of a purse that answer with one ticket for different challenges reveal its holder; for one challenge they reveal nothing.
func TestCopies(t *testing.T) {
	r := random()
	for round := range 40 {
		s := setups()[round%4]
		h := issue(t, r, s, 3, 1, 0, anyAttrs(r, s))
		d, p := filled(t, s, someLimits(), h)
		other := open(t, d.Copy(), s, someLimits())
		one, two := 1+r.IntN(s.Group.Q-1), 1+r.IntN(s.Group.Q-1)
		a, b := answer(t, r, p, one), answer(t, r, other, two)
		if !ticket.Accepts(s, h.Ticket, a) || !ticket.Accepts(s, h.Ticket, b) {
			t.Error(s, a, b)
		}
		who, ok := ticket.Trace(s, h.Ticket, a, b)
		if ok != (a.Dare != b.Dare) || ok && (!slices.Equal(who, h.Attrs) || !ticket.Guilty(s, h.Ticket, a, b, h.Attrs)) || !ok && !sameSpends(a, b) {
			t.Error(s, a, b, who)
		}
	}
}

// answer returns the spend of the only ticket of a purse, which is reserved for a challenge, or lent.
func answer(t *testing.T, r *rand.Rand, p *purse.Purse, dare int) api.Spend {
	t.Helper()
	if r.IntN(3) == 0 {
		_, links, e := p.Lend(1, 0, api.Ticket{R: dare}, "9;0:,")
		if e != api.OK {
			t.Fatal(e)
		}
		return links[0].Spend
	}
	i, e := p.Reserve(1, 0, dare)
	x, f := p.Answer(i)
	if e != api.OK || f != api.OK || x.Dare != dare {
		t.Fatal(i, e, f)
	}
	return x
}

// P7.8: Lend of a purse that was opened again has the links that were stored.
func TestLinksAreStored(t *testing.T) {
	r, s := random(), wide()
	h := anyHeld(r, s, 1, 0)
	h.Links = append(anyLinks(r, 2), api.Link{Ticket: anyTicket(r), Spend: api.Spend{Dare: -7, Answers: ints[:7]}, Terms: "9;0:,"})
	d, _ := filled(t, s, someLimits(), h)
	p := restart(t, d, s, someLimits(), 1)
	_, links, e := p.Lend(1, 0, api.Ticket{}, "9;0:,")
	if e != api.OK || linksText(links[:3]) != linksText(h.Links) {
		t.Error(links, e)
	}
	if d.Size(0) == 0 || len(base.Text(encoded(h))) > api.MaxRecord {
		t.Error(d.Size(0))
	}
}
