package ticket

import (
	"cloak/api"
	"cloak/field"
)

// Public returns the key of a secret.
func Public(s api.Setup, x int) int {
	g, ok := open(s)
	if !ok || !g.factors(x) {
		return 0
	}
	return g.power(g.Group.G, x)
}

// Propose returns the offer of an issuer.
func Propose(s api.Setup, x int, attrs []int, w int) (api.Offer, api.Errno) {
	g, ok := open(s)
	if !ok || !g.usable(attrs) || !g.factors(x) || !g.numbers(w) {
		return api.Offer{}, api.ErrArg
	}
	m := g.mark(attrs)
	return api.Offer{Z: g.power(m, x), A: g.power(g.Group.G, w), B: g.power(m, w)}, api.OK
}

// Ask returns what the holder sends to the issuer.
func Ask(s api.Setup, key int, attrs []int, o api.Offer, b api.Blinding) (int, api.Errno) {
	g, ok := open(s)
	if !ok {
		return 0, api.ErrArg
	}
	_, c, e := g.ask(key, attrs, o, b)
	return c, e
}

// ask returns the ticket of a holder, which has no R yet, and what the holder sends to the issuer.
func (g group) ask(key int, attrs []int, o api.Offer, b api.Blinding) (api.Ticket, int, api.Errno) {
	if !g.usable(attrs) || !g.proper(key, o.Z) || !g.elements(o.A, o.B) || !g.blinding(b) {
		return api.Ticket{}, 0, api.ErrArg
	}
	t := g.blind(g.mark(attrs), o, b)
	c := g.inner(t)
	if c == 0 {
		return api.Ticket{}, 0, api.ErrState
	}
	return t, g.mul(c, g.invert(b.U)), api.OK
}

// blinding reports whether a blinding is valid.
func (g group) blinding(b api.Blinding) bool {
	return g.factors(b.S, b.U) && g.numbers(b.V) && len(b.Ys) == len(g.Bases) && g.numbers(b.Ys...)
}

// blind returns the ticket, without its R, to which an offer for the mark m leads with a blinding.
func (g group) blind(m int, o api.Offer, b api.Blinding) api.Ticket {
	mark := g.power(m, b.S)
	return api.Ticket{
		Mark:  mark,
		First: g.product(b.Ys),
		Z:     g.power(o.Z, b.S),
		A:     g.times(g.power(o.A, b.U), g.power(g.Group.G, b.V)),
		B:     g.times(g.power(o.B, g.mul(b.S, b.U)), g.power(mark, b.V)),
	}
}

// Grant returns what the issuer answers.
func Grant(s api.Setup, x, w, c int) int {
	g, ok := open(s)
	if !ok || !g.factors(x) || !g.numbers(w, c) {
		return 0
	}
	return field.Add(g.Group.Q, g.mul(c, x), w)
}

// Finish returns the ticket.
func Finish(s api.Setup, key int, attrs []int, o api.Offer, b api.Blinding, r int) (api.Ticket, api.Errno) {
	g, ok := open(s)
	if !ok {
		return api.Ticket{}, api.ErrArg
	}
	t, _, e := g.finish(key, attrs, o, b, r)
	return t, e
}

// finish returns the ticket, and what the holder has sent to the issuer for it.
func (g group) finish(key int, attrs []int, o api.Offer, b api.Blinding, r int) (api.Ticket, int, api.Errno) {
	t, c, e := g.ask(key, attrs, o, b)
	if e != api.OK {
		return api.Ticket{}, 0, e
	}
	if !g.numbers(r) {
		return api.Ticket{}, 0, api.ErrArg
	}
	if !g.answers(g.Group.G, r, key, c, o.A) || !g.answers(g.mark(attrs), r, o.Z, c, o.B) {
		return api.Ticket{}, 0, api.ErrCheck
	}
	t.R = field.Add(g.Group.Q, g.mul(r, b.U), b.V)
	return t, c, api.OK
}
