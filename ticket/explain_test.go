package ticket_test

import (
	"fmt"
	"math"
	"slices"
	"testing"

	"cloak/api"
	"cloak/ticket"
)

// view is what everybody sees of a ticket and its spend for a challenge.
func view(y api.Ticket, x api.Spend) string { return fmt.Sprint(y, x) }

// obtained returns the blindings, of all those of tiny, with which the holder of a session obtains a ticket, by what everybody sees of the ticket and its spend for dare.
func obtained(key int, x api.Session, dare int, all []api.Blinding) map[string][]api.Blinding {
	l := map[string][]api.Blinding{}
	for _, b := range all {
		if c, e := ticket.Ask(tiny, key, x.Attrs, x.Offer, b); e != api.OK || c != x.C {
			continue
		}
		if y, e := ticket.Finish(tiny, key, x.Attrs, x.Offer, b, x.R); e == api.OK {
			spend, _ := ticket.Use(tiny, x.Attrs, b, dare)
			l[view(y, spend)] = append(l[view(y, spend)], b)
		}
	}
	return l
}

// tinySession returns a session of tiny by exponents: Z = m^z, A = G^a, B = m^b. It is honest, for the key 4^x, if z is x, a is b, and r is c x + a.
func tinySession(attr, z, a, b, c, r int) api.Session {
	g := tiny.Group
	m := product(tiny, []int{1, attr})
	return api.Session{Attrs: []int{attr}, Offer: api.Offer{Z: power(g, m, z), A: power(g, 4, a), B: power(g, m, b)}, C: c, R: r}
}

// tinySessions returns sessions with the key of the secret 2: honest ones, ones that end well although the issuer has deviated, and ones that do not end.
func tinySessions() []api.Session {
	l := []api.Session{
		tinySession(1, 2, 3, 3, 1, 0), tinySession(3, 2, 0, 0, 4, 3), tinySession(4, 2, 1, 1, 2, 0), tinySession(1, 2, 4, 4, 3, 0), tinySession(4, 2, 2, 2, 4, 0), tinySession(3, 2, 3, 3, 2, 2),
		tinySession(1, 4, 3, 4, 2, 2), tinySession(3, 4, 3, 4, 2, 2), tinySession(4, 1, 3, 4, 1, 0), tinySession(1, 4, 1, 0, 3, 2), tinySession(4, 4, 1, 0, 3, 2),
	}
	bad := []api.Session{
		tinySession(1, 2, 3, 3, 0, 3), tinySession(1, 2, 3, 3, 6, 0), tinySession(1, 2, 3, 3, -4, 0), tinySession(1, 2, 3, 3, 1, 5), tinySession(1, 2, 3, 3, 1, 1), tinySession(1, 2, 3, 3, 1, -5),
		tinySession(1, 2, 3, 4, 1, 0), tinySession(1, 1, 3, 3, 1, 4), tinySession(1, 1, 3, 3, 1, 0), tinySession(1, 0, 3, 0, 1, 0), tinySession(2, 2, 3, 3, 1, 0), tinySession(5, 2, 3, 3, 1, 0), tinySession(0, 2, 3, 3, 1, 0), {},
	}
	return append(l, bad...)
}

// P4.8, P4.13: all pairs of many sessions of tiny, honest ones and others, by trying all blindings.
func TestExplainAll(t *testing.T) {
	all, sessions := blindings(), tinySessions()
	found := 0
	for _, dare := range []int{1, 3} {
		var views []map[string][]api.Blinding
		for _, x := range sessions {
			views = append(views, obtained(5, x, dare, all))
		}
		for i, from := range sessions {
			for k := i; k < len(all); k += 59 {
				b := all[k]
				seen := "nothing"
				y, e := ticket.Finish(tiny, 5, from.Attrs, from.Offer, b, from.R)
				if c, _ := ticket.Ask(tiny, 5, from.Attrs, from.Offer, b); e == api.OK && c == from.C {
					spend, _ := ticket.Use(tiny, from.Attrs, b, dare)
					seen = view(y, spend)
				}
				for n, to := range sessions {
					want := views[n][seen]
					got, ok := ticket.Explain(tiny, tinyMirror, 5, from, b, to, dare)
					if len(want) > 1 || ok != (len(want) == 1) || ok && !sameBlindings(got, want[0]) || !ok && !isZero(got) {
						t.Error(from, b, to, dare, got, ok, want)
					}
					if n < 6 && i < 6 && seen != "nothing" && !ok {
						t.Error("honest sessions", from, b, to)
					}
					if ok {
						found++
					}
				}
			}
		}
	}
	if found < 300 {
		t.Error(found)
	}
}

// P4.13: a session of another key leads to no ticket of this key with any blinding.
func TestOtherKey(t *testing.T) {
	all := blindings()
	from := tinySession(1, 2, 3, 3, 1, 0)
	mine := obtained(5, from, 2, all)
	for _, to := range []api.Session{tinySession(1, 3, 3, 3, 1, 1), tinySession(3, 1, 4, 4, 2, 1), tinySession(4, 4, 0, 0, 3, 2)} {
		for _, key := range []int{4, 9, 3} {
			for seen := range obtained(key, to, 2, all) {
				if len(mine[seen]) > 0 {
					t.Error(to, seen)
				}
			}
		}
		for _, l := range mine {
			if got, ok := ticket.Explain(tiny, tinyMirror, 5, from, l[0], to, 2); ok || !isZero(got) {
				t.Error(to, l, got)
			}
		}
	}
	if len(mine) == 0 {
		t.Error("no ticket at all")
	}
}

// P4.8, P4.13: in all setups.
func TestExplain(t *testing.T) {
	r := random()
	for i, s := range setups {
		q := s.Group.Q
		for range 20 {
			p := anyPair(r, s)
			from, to := issue(t, r, s, p), issue(t, r, s, p)
			dare := 1 + r.IntN(q-1)
			got, ok := ticket.Explain(s, mirrors[i], p.key, from.session, from.blinding, to.session, dare)
			if !ok {
				t.Fatal(s, from, to, dare)
			}
			c, e := ticket.Ask(s, p.key, to.session.Attrs, to.session.Offer, got)
			y, f := ticket.Finish(s, p.key, to.session.Attrs, to.session.Offer, got, to.session.R)
			spend, _ := ticket.Use(s, to.session.Attrs, got, dare)
			if c != to.session.C || e != api.OK || y != from.ticket || f != api.OK || !sameSpends(spend, use(t, s, from, dare)) {
				t.Error(s, from, to, dare, got)
			}
			// From there it leads back, and from a session to itself.
			back, ok := ticket.Explain(s, mirrors[i], p.key, to.session, got, from.session, dare)
			if !ok || !sameBlindings(back, from.blinding) {
				t.Error(s, from, to, dare, back)
			}
			if same, ok := ticket.Explain(s, mirrors[i], p.key, from.session, from.blinding, from.session, dare); !ok || !sameBlindings(same, from.blinding) {
				t.Error(s, from, same)
			}
		}
	}
}

// P4.13: two spends do tell who the holder is: what explains one of them does not explain another one.
func TestExplainOneSpend(t *testing.T) {
	r := random()
	p := anyPair(r, large)
	from, to := issue(t, r, large, p), issue(t, r, large, p)
	got, ok := ticket.Explain(large, largeMirror, p.key, from.session, from.blinding, to.session, 12345)
	other := issued{session: to.session, blinding: got}
	if !ok || !sameSpends(use(t, large, other, 12345), use(t, large, from, 12345)) || sameSpends(use(t, large, other, 12346), use(t, large, from, 12346)) {
		t.Error(got, ok)
	}
}

// explained are the arguments of Explain.
type explained struct {
	setup    api.Setup
	mirror   api.Mirror
	key      int
	from, to issued
	dare     int
}

// P4.8: arguments that are not valid.
func TestExplainErrors(t *testing.T) {
	r := random()
	for i, s := range setups {
		p, q := anyPair(r, s), s.Group.Q
		x := explained{s, mirrors[i], p.key, issue(t, r, s, p), issue(t, r, s, p), 1}
		fails := func(change func(y *explained)) {
			t.Helper()
			y := x
			y.mirror.Bases = slices.Clone(x.mirror.Bases)
			y.from.session.Attrs, y.to.session.Attrs = slices.Clone(x.from.session.Attrs), slices.Clone(x.to.session.Attrs)
			y.from.blinding.Ys = slices.Clone(x.from.blinding.Ys)
			change(&y)
			if got, ok := ticket.Explain(y.setup, y.mirror, y.key, y.from.session, y.from.blinding, y.to.session, y.dare); ok || !isZero(got) {
				t.Error(y, got, ok)
			}
		}
		for _, n := range append(notNumbers(q), 0) {
			fails(func(y *explained) { y.dare = n })
			fails(func(y *explained) { y.from.blinding.S = n })
			fails(func(y *explained) { y.from.blinding.U = n })
			fails(func(y *explained) { y.from.session.C = n })
			fails(func(y *explained) { y.to.session.C = n })
			fails(func(y *explained) { y.from.session.Attrs[0] = n })
			fails(func(y *explained) { y.to.session.Attrs[0] = n })
			fails(func(y *explained) { y.mirror.Blind = n })
		}
		for _, n := range notNumbers(q) {
			fails(func(y *explained) { y.from.blinding.V = n })
			fails(func(y *explained) { y.from.blinding.Ys[0] = n })
		}
		for _, n := range []int{q, -q, 1} {
			fails(func(y *explained) { y.from.session.R += n })
			fails(func(y *explained) { y.to.session.R += n })
			fails(func(y *explained) { y.mirror.Bases[0] += n })
			fails(func(y *explained) { y.mirror.Blind += n })
		}
		for _, n := range []int{q, -q} {
			fails(func(y *explained) { y.from.session.C += n })
			fails(func(y *explained) { y.to.session.C += n })
		}
		fails(func(y *explained) { y.from.session.C = y.from.session.C%(q-1) + 1 })
		fails(func(y *explained) { y.to.session.C = y.to.session.C%(q-1) + 1 })
		for _, n := range append(notElements(s.Group), 1, p.key+s.Group.P) {
			fails(func(y *explained) { y.key = n })
			fails(func(y *explained) { y.from.session.Offer.Z = n })
			fails(func(y *explained) { y.to.session.Offer.Z = n })
		}
		fails(func(y *explained) { y.to.session.Offer.A += s.Group.P })
		fails(func(y *explained) { y.to.session.Offer.B -= s.Group.P })
		fails(func(y *explained) { y.from.blinding.Ys = y.from.blinding.Ys[1:] })
		fails(func(y *explained) { y.from.blinding.Ys = append(y.from.blinding.Ys, 0) })
		fails(func(y *explained) { y.from.session.Attrs = nil })
		fails(func(y *explained) { y.to.session.Attrs = nil })
		fails(func(y *explained) { y.to.session.Attrs = append(y.to.session.Attrs, 1) })
		fails(func(y *explained) { y.mirror.Bases = y.mirror.Bases[1:] })
		fails(func(y *explained) { y.mirror.Bases = append(y.mirror.Bases, 1) })
		fails(func(y *explained) { y.mirror = api.Mirror{} })
		fails(func(y *explained) { y.setup.Blind = 1 })
		fails(func(y *explained) { y.setup = api.Setup{} })
	}
	for _, s := range notSetups {
		if got, ok := ticket.Explain(s, smallMirror, 18, api.Session{}, api.Blinding{}, api.Session{}, 1); ok || !isZero(got) {
			t.Error(s, got)
		}
	}
}

// P1: no sessions lead to a panic.
func TestAnySessions(t *testing.T) {
	for i, s := range setups {
		for _, a := range ints {
			for _, b := range ints {
				x := api.Session{Attrs: []int{a, b}, Offer: api.Offer{Z: a, A: b, B: a}, C: a, R: b}
				y := api.Session{Attrs: []int{5, 7}, Offer: api.Offer{Z: 9, A: 16, B: 13}, C: a, R: b}
				for _, c := range []api.Blinding{{}, {S: a, U: b, V: a, Ys: []int{a, b}}, {S: 4, U: 3, V: 0, Ys: []int{1, 2, 3}}} {
					ticket.Explain(s, mirrors[i], 18, x, c, y, 1)
					ticket.Explain(s, mirrors[i], 18, y, c, x, 1)
					ticket.Explain(s, mirrors[i], a, y, c, y, b)
					ticket.Explain(s, api.Mirror{Bases: []int{a, b, math.MinInt}, Blind: 1}, 18, y, c, y, 1)
				}
			}
		}
	}
}
