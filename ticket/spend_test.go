package ticket_test

import (
	"slices"
	"testing"

	"cloak/api"
	"cloak/ticket"
)

// P4.6, P4.7: the document's examples.
func TestSpendExamples(t *testing.T) {
	attrs, b := []int{5, 7}, api.Blinding{S: 4, U: 1, Ys: []int{1, 2, 3}}
	y := api.Ticket{Mark: 8, First: 18, Z: 9, A: 16, B: 13, R: 0}
	one, ok := ticket.Use(small, attrs, b, 2)
	two, is := ticket.Use(small, attrs, b, 5)
	if !ok || !is || !sameSpends(one, api.Spend{Dare: 2, Answers: []int{9, 9, 4}}) || !sameSpends(two, api.Spend{Dare: 5, Answers: []int{10, 3, 0}}) {
		t.Error(one, two)
	}
	if !ticket.Accepts(small, y, one) || !ticket.Accepts(small, y, two) || ticket.Accepts(small, y, api.Spend{Dare: 3, Answers: []int{9, 9, 4}}) {
		t.Error("accepts")
	}
	if l, ok := ticket.Trace(small, y, one, two); !slices.Equal(l, attrs) || !ok {
		t.Error(l, ok)
	}
	if l, ok := ticket.Trace(small, y, one, one); len(l) > 0 || ok {
		t.Error(l, ok)
	}
}

// P4.6
func TestUse(t *testing.T) {
	r := random()
	for _, s := range setups {
		q := s.Group.Q
		for range 30 {
			attrs, b := anyAttrs(r, s), anyBlinding(r, s)
			for _, dare := range []int{1, 2, 1 + r.IntN(q-1), q - 1} {
				x, ok := ticket.Use(s, attrs, b, dare)
				want := api.Spend{Dare: dare}
				for i, e := range ones(attrs) {
					want.Answers = append(want.Answers, residue(q, 1, (b.Ys[i]+residue(q, dare, b.S, e))%q))
				}
				if !ok || !sameSpends(x, want) {
					t.Error(s, attrs, b, dare, x, ok)
				}
			}
		}
		attrs, b := anyAttrs(r, s), anyBlinding(r, s)
		for _, x := range badAsked(asked{s, s.Bases[0], attrs, api.Offer{Z: s.Group.G, A: 1, B: 1}, b}) {
			// These also contain offers and keys that are not valid, which Use does not see.
			want := x.key == s.Bases[0] && x.offer == (api.Offer{Z: s.Group.G, A: 1, B: 1})
			if got, ok := ticket.Use(x.setup, x.attrs, x.blinding, 1); ok == want || !ok && !sameSpends(got, api.Spend{}) {
				t.Error(x, got, ok)
			}
		}
		for _, dare := range append(notNumbers(q), 0) {
			if x, ok := ticket.Use(s, attrs, b, dare); ok || !sameSpends(x, api.Spend{}) {
				t.Error(s, dare, x)
			}
		}
	}
	for _, s := range notSetups {
		if x, ok := ticket.Use(s, []int{5, 7}, api.Blinding{S: 4, U: 1, Ys: []int{1, 2, 3}}, 2); ok || !sameSpends(x, api.Spend{}) {
			t.Error(s, x)
		}
	}
	if x, ok := ticket.Use(small, []int{5, 0}, api.Blinding{S: 4, U: 1, Ys: []int{1, 2, 3}}, 2); ok || !sameSpends(x, api.Spend{}) {
		t.Error("a mark 1", x)
	}
}

// spent is a ticket of tiny by the exponents of its Mark and First, with the challenges and answers of all spends that are accepted for it.
type spent struct {
	ticket api.Ticket
	spends []api.Spend
}

// allSpent returns all combinations of Mark and First of tiny with all spends that are accepted, by the exponents of the mirror.
func allSpent() []spent {
	var l []spent
	for mark := 1; mark < 5; mark++ {
		for first := range 5 {
			x := spent{ticket: api.Ticket{Mark: power(tiny.Group, 4, mark), First: power(tiny.Group, 4, first), Z: 9, A: 3, B: 1, R: 2}}
			for dare := 1; dare < 5; dare++ {
				for _, a := range tuples(5, 2) {
					if (a[0]*tinyMirror.Bases[0]+a[1]*tinyMirror.Bases[1])%5 == (mark*dare+first)%5 {
						x.spends = append(x.spends, api.Spend{Dare: dare, Answers: a})
					}
				}
			}
			l = append(l, x)
		}
	}
	return l
}

// P4.6: all spends of tiny, also those with numbers out of range.
func TestAcceptsAll(t *testing.T) {
	for _, x := range allSpent() {
		for dare := -1; dare <= 9; dare++ {
			for a := -1; a <= 5; a++ {
				for b := -1; b <= 5; b++ {
					y := api.Spend{Dare: dare, Answers: []int{a, b}}
					want := slices.ContainsFunc(x.spends, func(z api.Spend) bool { return sameSpends(y, z) })
					if got := ticket.Accepts(tiny, x.ticket, y); got != want {
						t.Error(x.ticket, y, got)
					}
				}
			}
		}
	}
}

// P4.6: what is not accepted.
func TestAcceptsNot(t *testing.T) {
	r := random()
	for _, s := range setups {
		q := s.Group.Q
		x := issue(t, r, s, anyPair(r, s))
		good := use(t, s, x, q-1)
		var bad []api.Spend
		for i := range good.Answers {
			for _, n := range append(notNumbers(q), good.Answers[i]+q, good.Answers[i]-q, (good.Answers[i]+1)%q) {
				y := api.Spend{Dare: good.Dare, Answers: slices.Clone(good.Answers)}
				y.Answers[i] = n
				bad = append(bad, y)
			}
		}
		for _, n := range append(notNumbers(q), 0, 1, good.Dare-1, good.Dare+q, good.Dare-q) {
			bad = append(bad, api.Spend{Dare: n, Answers: good.Answers})
		}
		for _, l := range [][]int{nil, good.Answers[1:], good.Answers[:len(good.Answers)-1], append(slices.Clone(good.Answers), 0), append([]int{0}, good.Answers...)} {
			bad = append(bad, api.Spend{Dare: good.Dare, Answers: l})
		}
		for _, y := range bad {
			if ticket.Accepts(s, x.ticket, y) || ticket.Guilty(s, x.ticket, y, use(t, s, x, 1), x.session.Attrs) || ticket.Guilty(s, x.ticket, use(t, s, x, 1), y, x.session.Attrs) {
				t.Error(s, x, y)
			}
			if l, ok := ticket.Trace(s, x.ticket, y, use(t, s, x, 1)); ok || len(l) > 0 {
				t.Error(s, x, y, l)
			}
			if l, ok := ticket.Trace(s, x.ticket, use(t, s, x, 1), y); ok || len(l) > 0 {
				t.Error(s, x, y, l)
			}
		}
		// It does not matter whether the ticket is valid, but it has to be well formed.
		y := x.ticket
		y.Z, y.A, y.B, y.R = 1, 1, 1, (y.R+1)%q
		if !ticket.Accepts(s, y, good) || !ticket.Guilty(s, y, good, use(t, s, x, 1), x.session.Attrs) {
			t.Error(s, y)
		}
		for _, change := range []func(y *api.Ticket){func(y *api.Ticket) { y.R = q }, func(y *api.Ticket) { y.Z = 0 }, func(y *api.Ticket) { y.A = -1 }, func(y *api.Ticket) { y.B = s.Group.P - 1 }, func(y *api.Ticket) { y.Mark += s.Group.P }, func(y *api.Ticket) { y.First += s.Group.P }} {
			y := x.ticket
			change(&y)
			if l, ok := ticket.Trace(s, y, good, use(t, s, x, 1)); ticket.Accepts(s, y, good) || ok || len(l) > 0 || ticket.Guilty(s, y, good, use(t, s, x, 1), x.session.Attrs) {
				t.Error(s, y)
			}
		}
	}
	one, two := api.Spend{Dare: 2, Answers: []int{9, 9, 4}}, api.Spend{Dare: 5, Answers: []int{10, 3, 0}}
	for _, s := range notSetups {
		y := api.Ticket{Mark: 8, First: 18, Z: 9, A: 16, B: 13, R: 0}
		if l, ok := ticket.Trace(s, y, one, two); ticket.Accepts(s, y, one) || ok || len(l) > 0 || ticket.Guilty(s, y, one, two, []int{5, 7}) {
			t.Error(s)
		}
	}
	// With the mark 1 and First 1, answers 0 would be right for each challenge.
	if ticket.Accepts(tiny, api.Ticket{Mark: 1, First: 1, Z: 1, A: 1, B: 1}, api.Spend{Dare: 1, Answers: []int{0, 0}}) {
		t.Error("a mark 1")
	}
}

// P4.7, P4.19: all pairs of spends of all tickets of tiny.
func TestTraceAll(t *testing.T) {
	revealed, zeros := 0, 0
	for _, x := range allSpent() {
		for _, a := range x.spends {
			for _, b := range x.spends {
				l, ok := ticket.Trace(tiny, x.ticket, a, b)
				if a.Dare == b.Dare || a.Answers[0] == b.Answers[0] {
					if ok || len(l) > 0 {
						t.Error(x.ticket, a, b, l)
					}
				} else {
					revealed++
					part := quotient(5, 1, a.Answers[0]-b.Answers[0])
					if want := residue(5, a.Answers[1]-b.Answers[1], part); !ok || len(l) != 1 || l[0] != want {
						t.Error(x.ticket, a, b, l, ok)
					} else if want == 0 {
						zeros++
					}
					k := quotient(5, a.Answers[0]-b.Answers[0], a.Dare-b.Dare)
					if power(tiny.Group, product(tiny, ones(l)), k) != x.ticket.Mark {
						t.Error(x.ticket, a, b, l, k)
					}
				}
				for n := -1; n <= 9; n++ {
					if got := ticket.Guilty(tiny, x.ticket, a, b, []int{n}); got != (ok && n == l[0]) {
						t.Error(x.ticket, a, b, l, n, got)
					}
				}
			}
		}
	}
	// A number 0 of a holder is revealed like any other one: it is some representation of the mark.
	if revealed == 0 || zeros == 0 {
		t.Error(revealed, zeros)
	}
}

// P4.7: the number of attributes.
func TestGuiltyLengths(t *testing.T) {
	y := api.Ticket{Mark: 8, First: 18, Z: 9, A: 16, B: 13, R: 0}
	a, b := api.Spend{Dare: 2, Answers: []int{9, 9, 4}}, api.Spend{Dare: 5, Answers: []int{10, 3, 0}}
	if !ticket.Guilty(small, y, a, b, []int{5, 7}) || !ticket.Guilty(small, y, b, a, []int{5, 7}) {
		t.Error("guilty")
	}
	for _, l := range [][]int{nil, {}, {5}, {5, 7, 0}, {1, 5, 7}, {16, 7}, {5, 18}, {-6, 7}, {5, -4}, {7, 5}} {
		if ticket.Guilty(small, y, a, b, l) || ticket.Guilty(small, y, a, a, l) || ticket.Guilty(small, y, api.Spend{}, b, l) {
			t.Error(l)
		}
	}
}

// P4.14: for all tickets of tiny with a spend, and all usable attributes.
func TestSecrecy(t *testing.T) {
	for _, x := range allSpent() {
		for _, attrs := range [][]int{{1}, {3}, {4}} {
			for _, y := range x.spends {
				found := 0
				for _, b := range tuples(5, 3) {
					if b[0] == 0 || power(tiny.Group, ticket.Mark(tiny, attrs), b[0]) != x.ticket.Mark || product(tiny, b[1:]) != x.ticket.First {
						continue
					}
					z, ok := ticket.Use(tiny, attrs, api.Blinding{S: b[0], U: 1, Ys: b[1:]}, y.Dare)
					if ok && sameSpends(y, z) {
						found++
					}
				}
				if found != 1 {
					t.Error(x.ticket, attrs, y, found)
				}
			}
		}
	}
}

// P4.15
func TestExposure(t *testing.T) {
	r := random()
	for _, s := range setups {
		q := s.Group.Q
		for range 20 {
			x := issue(t, r, s, anyPair(r, s))
			one := 1 + r.IntN(q-1)
			two := 1 + r.IntN(q-1)
			a, b := use(t, s, x, one), use(t, s, x, two)
			if one == two {
				if !sameSpends(a, b) {
					t.Error(s, x, a, b)
				}
				two = one%(q-1) + 1
				b = use(t, s, x, two)
			}
			if again := use(t, s, x, one); !sameSpends(a, again) {
				t.Error(s, x, a, again)
			}
			l, ok := ticket.Trace(s, x.ticket, a, b)
			if !ok || !slices.Equal(l, x.session.Attrs) || !ticket.Guilty(s, x.ticket, a, b, l) {
				t.Error(s, x, a, b, l, ok)
			}
			for i := range l {
				other := slices.Clone(l)
				other[i] = (other[i] + 1 + r.IntN(q-1)) % q
				if ticket.Guilty(s, x.ticket, a, b, other) {
					t.Error(s, x, a, b, other)
				}
			}
		}
	}
	x := issued{session: api.Session{Attrs: []int{5, 7}}, blinding: api.Blinding{S: 4, U: 1, Ys: []int{1, 2, 3}}, ticket: api.Ticket{Mark: 8, First: 18, Z: 9, A: 16, B: 13, R: 0}}
	for _, l := range tuples(11, 2) {
		if ticket.Guilty(small, x.ticket, use(t, small, x, 7), use(t, small, x, 3), l) != slices.Equal(l, []int{5, 7}) {
			t.Error(l)
		}
	}
}

// P4.19: a ticket whose maker is no holder, in a great group: the spends answer for a list of exponents that does not begin with 1.
func TestRepresentation(t *testing.T) {
	g := large.Group
	exps, ys := []int{77, 1234567890123456789 % g.Q, 0}, []int{5, g.Q - 1, 999}
	y := api.Ticket{Mark: product(large, exps), First: product(large, ys), Z: 4, A: 16, B: 1, R: g.Q - 1}
	spend := func(dare int) api.Spend {
		x := api.Spend{Dare: dare}
		for i, e := range exps {
			x.Answers = append(x.Answers, (ys[i]+residue(g.Q, dare, e))%g.Q)
		}
		return x
	}
	a, b := spend(g.Q-2), spend(17)
	l, ok := ticket.Trace(large, y, a, b)
	if !ok || !slices.Equal(l, []int{quotient(g.Q, exps[1], 77), 0}) || !ticket.Guilty(large, y, a, b, l) {
		t.Fatal(l, ok)
	}
	k := quotient(g.Q, a.Answers[0]-b.Answers[0], a.Dare-b.Dare)
	if power(g, ticket.Mark(large, l), k) != y.Mark {
		t.Error(l, k)
	}
}
