package ticket

import (
	"cloak/api"
	"cloak/field"
)

// Use returns the spend of a holder.
func Use(s api.Setup, attrs []int, b api.Blinding, dare int) (api.Spend, bool) {
	g, ok := open(s)
	if !ok || !g.usable(attrs) || !g.blinding(b) || !g.factors(dare) {
		return api.Spend{}, false
	}
	return api.Spend{Dare: dare, Answers: g.shift(b.Ys, g.mul(dare, b.S), attrs)}, true
}

// Accepts reports whether a spend is accepted for a ticket.
func Accepts(s api.Setup, t api.Ticket, x api.Spend) bool {
	g, ok := open(s)
	return ok && g.accepts(t, x)
}

// accepts reports whether the ticket is well formed, and the spend is accepted for it.
func (g group) accepts(t api.Ticket, x api.Spend) bool {
	if !g.formed(t) || !g.factors(x.Dare) || len(x.Answers) != len(g.Bases) || !g.numbers(x.Answers...) {
		return false
	}
	return g.product(x.Answers) == g.times(g.power(t.Mark, x.Dare), t.First)
}

// Trace returns the attributes that two spends reveal.
func Trace(s api.Setup, t api.Ticket, a, b api.Spend) ([]int, bool) {
	g, ok := open(s)
	if !ok || !g.reveal(t, a, b) {
		return nil, false
	}
	l := g.differences(a, b)
	part := g.invert(l[0])
	attrs := make([]int, len(l)-1)
	for i, d := range l[1:] {
		attrs[i] = g.mul(d, part)
	}
	return attrs, true
}

// Guilty reports whether two spends reveal some attributes.
func Guilty(s api.Setup, t api.Ticket, a, b api.Spend, attrs []int) bool {
	g, ok := open(s)
	if !ok || !g.reveal(t, a, b) || len(attrs) != len(g.Bases)-1 || !g.numbers(attrs...) {
		return false
	}
	l := g.differences(a, b)
	for i, d := range l[1:] {
		if d != g.mul(attrs[i], l[0]) {
			return false
		}
	}
	return true
}

// reveal reports whether two spends of a ticket reveal attributes.
func (g group) reveal(t api.Ticket, a, b api.Spend) bool {
	return g.accepts(t, a) && g.accepts(t, b) && a.Dare != b.Dare && a.Answers[0] != b.Answers[0]
}

// differences returns the differences of the answers of two spends of one ticket.
func (g group) differences(a, b api.Spend) []int {
	l := make([]int, len(a.Answers))
	for i, x := range a.Answers {
		l[i] = field.Sub(g.Group.Q, x, b.Answers[i])
	}
	return l
}
