package purse_test

import (
	"slices"
	"strings"
	"testing"

	"cloak/api"
	"cloak/purse"
	"cloak/ticket"
)

// P7.2
func TestSame(t *testing.T) {
	r := random()
	for range 50 {
		a := anyTicket(r)
		b := a
		if !purse.Same(a, b) {
			t.Error(a)
		}
		for _, f := range []*int{&b.Mark, &b.First, &b.Z, &b.A, &b.B, &b.R} {
			*f++
			if purse.Same(a, b) || purse.Same(b, a) {
				t.Error(a, b)
			}
			*f--
		}
	}
	if !purse.Same(api.Ticket{}, api.Ticket{}) {
		t.Error("zero")
	}
}

// isValid reports whether a held ticket is valid, by the definition.
func isValid(s api.Setup, limits []api.Limit, h api.Held) bool {
	q := s.Group.Q
	within := func(low int, l ...int) bool {
		return !slices.ContainsFunc(l, func(x int) bool { return x < low || x > q-1 })
	}
	b := h.Blinding
	// Formed reports that the setup is valid, too.
	if !ticket.Formed(s, h.Ticket) || h.Limit < 0 || h.Limit > len(limits)-1 || h.Window < 0 || h.Window > 1<<31 {
		return false
	}
	if len(h.Attrs)+1 != len(s.Bases) || !within(0, h.Attrs...) || h.Attrs[0] < 1 || !within(1, b.S, b.U) || !within(0, b.V) || !within(0, b.Ys...) || len(b.Ys) != len(s.Bases) {
		return false
	}
	for _, x := range h.Links {
		if len(x.Terms) > 200 || len(x.Spend.Answers) > 7 {
			return false
		}
	}
	return len(h.Links) <= 4 && h.Ticket.Mark == power(s, product(s, ones(h.Attrs)), b.S) && h.Ticket.First == product(s, b.Ys)
}

// P7.2: valid tickets, with as much of everything as there may be.
func TestValid(t *testing.T) {
	r := random()
	for _, s := range setups() {
		for i := range 40 {
			h := anyHeld(r, s, i%3, []int{0, 1, 1 << 31}[i%3])
			h.Links = anyLinks(r, i%5)
			if !isValid(s, someLimits(), h) || !purse.Valid(s, someLimits(), h) {
				t.Error(s, h)
			}
			// The limits themselves need not be valid, and the ticket need not be signed by anybody.
			if !purse.Valid(s, make([]api.Limit, 3), h) || purse.Valid(s, someLimits()[:h.Limit], h) || purse.Valid(s, nil, h) {
				t.Error(s, h)
			}
			for _, not := range notSetups() {
				if purse.Valid(not, someLimits(), h) {
					t.Error(not, h)
				}
			}
		}
		h := anyHeld(r, s, 0, 0)
		h.Links = slices.Repeat([]api.Link{{Terms: strings.Repeat("x", 200), Spend: api.Spend{Answers: make([]int, 7)}}}, 4)
		if !purse.Valid(s, someLimits(), h) {
			t.Error(h)
		}
	}
	if purse.Valid(middle(), someLimits(), api.Held{}) {
		t.Error("zero")
	}
}

// P7.2: each part that must be as the definition says.
func TestNotValid(t *testing.T) {
	r := random()
	for _, s := range setups() {
		q, p := s.Group.Q, s.Group.P
		changes := []struct {
			name string
			make func(h *api.Held)
		}{
			{"limit -1", func(h *api.Held) { h.Limit = -1 }},
			{"limit 3", func(h *api.Held) { h.Limit = 3 }},
			{"window -1", func(h *api.Held) { h.Window = -1 }},
			{"late window", func(h *api.Held) { h.Window = 1<<31 + 1 }},
			{"no attrs", func(h *api.Held) { h.Attrs = nil }},
			{"more attrs", func(h *api.Held) { h.Attrs = append(h.Attrs, 0) }},
			{"fewer attrs", func(h *api.Held) { h.Attrs = h.Attrs[:len(h.Attrs)-1] }},
			{"number + Q", func(h *api.Held) { h.Attrs[0] += q }},
			{"number - Q", func(h *api.Held) { h.Attrs[0] -= q }},
			{"attribute + Q", func(h *api.Held) { h.Attrs[len(h.Attrs)-1] += q }},
			{"attribute - Q", func(h *api.Held) { h.Attrs[len(h.Attrs)-1] -= q }},
			{"other number", func(h *api.Held) { h.Attrs[0] = h.Attrs[0]%(q-1) + 1 }},
			{"S + Q", func(h *api.Held) { h.Blinding.S += q }},
			{"S - Q", func(h *api.Held) { h.Blinding.S -= q }},
			{"other S", func(h *api.Held) { h.Blinding.S = h.Blinding.S%(q-1) + 1 }},
			{"U 0", func(h *api.Held) { h.Blinding.U = 0 }},
			{"U Q", func(h *api.Held) { h.Blinding.U = q }},
			{"U -1", func(h *api.Held) { h.Blinding.U = -1 }},
			{"V Q", func(h *api.Held) { h.Blinding.V = q }},
			{"V -1", func(h *api.Held) { h.Blinding.V = -1 }},
			{"no Ys", func(h *api.Held) { h.Blinding.Ys = nil }},
			{"more Ys", func(h *api.Held) { h.Blinding.Ys = append(h.Blinding.Ys, 0) }},
			{"fewer Ys", func(h *api.Held) { h.Blinding.Ys = h.Blinding.Ys[1:] }},
			{"Y + Q", func(h *api.Held) { h.Blinding.Ys[0] += q }},
			{"Y - Q", func(h *api.Held) { h.Blinding.Ys[1] -= q }},
			{"other Y", func(h *api.Held) { h.Blinding.Ys[1] = (h.Blinding.Ys[1] + 1) % q }},
			{"Mark + P", func(h *api.Held) { h.Ticket.Mark += p }},
			{"other Mark", func(h *api.Held) { h.Ticket.Mark = power(s, h.Ticket.Mark, 2) }},
			{"other First", func(h *api.Held) { h.Ticket.First = h.Ticket.First * s.Group.G % p }},
			{"First + P", func(h *api.Held) { h.Ticket.First += p }},
			{"Z", func(h *api.Held) { h.Ticket.Z = p - 1 }},
			{"A", func(h *api.Held) { h.Ticket.A = 0 }},
			{"B", func(h *api.Held) { h.Ticket.B += p }},
			{"R Q", func(h *api.Held) { h.Ticket.R = q }},
			{"R -1", func(h *api.Held) { h.Ticket.R = -1 }},
			{"five links", func(h *api.Held) { h.Links = anyLinks(r, 5) }},
			{"long terms", func(h *api.Held) { h.Links = append(anyLinks(r, 3), api.Link{Terms: strings.Repeat("x", 201)}) }},
			{"eight answers", func(h *api.Held) { h.Links = []api.Link{{Spend: api.Spend{Answers: make([]int, 8)}}} }},
		}
		for _, c := range changes {
			h := anyHeld(r, s, 2, 5)
			if !purse.Valid(s, someLimits(), h) {
				t.Fatal(c.name, s, h)
			}
			c.make(&h)
			if isValid(s, someLimits(), h) || purse.Valid(s, someLimits(), h) {
				t.Error(c.name, s, h)
			}
		}
	}
}

// P7.2: an S of 0 or Q, whose mark is 1; attributes whose first one is 0, and those whose mark is 1.
func TestMarkOne(t *testing.T) {
	s := small()
	for n := range 12 {
		for k := range 13 {
			h := api.Held{Attrs: []int{n}, Blinding: api.Blinding{S: k, U: 1, Ys: []int{0, 0}}, Ticket: api.Ticket{First: 1, Z: 1, A: 1, B: 1}}
			h.Ticket.Mark = power(s, product(s, ones(h.Attrs)), k)
			want := n >= 1 && n <= 10 && k >= 1 && k <= 10 && h.Ticket.Mark != 1
			if purse.Valid(s, someLimits(), h) != want {
				t.Error(n, k)
			}
		}
	}
}
