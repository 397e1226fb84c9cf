package ticket

import (
	"cloak/api"
	"cloak/field"
	"cloak/proof"
)

// Explain returns the blinding with which another session leads to the same ticket and spend.
func Explain(s api.Setup, m api.Mirror, key int, from api.Session, b api.Blinding, to api.Session, dare int) (api.Blinding, bool) {
	// A setup with a mirror is valid.
	g := group{s}
	if !proof.Mirrors(s, m) || !g.factors(dare) || !g.usable(to.Attrs) {
		return api.Blinding{}, false
	}
	t, ok := g.obtain(key, from, b)
	if !ok {
		return api.Blinding{}, false
	}
	// Only this blinding can lead to the mark, the inner challenge, the R and the answers; whether it leads to the rest depends on the session.
	e := g.matching(m, from, b, to, dare, t.R)
	if got, ok := g.obtain(key, to, e); !ok || got != t {
		return api.Blinding{}, false
	}
	return e, true
}

// obtain returns the ticket that the holder of a session obtains with a blinding, and reports whether it obtains one.
func (g group) obtain(key int, x api.Session, b api.Blinding) (api.Ticket, bool) {
	t, c, e := g.finish(key, x.Attrs, x.Offer, b, x.R)
	if e != api.OK || c != x.C {
		return api.Ticket{}, false
	}
	return t, true
}

// matching returns the blinding of the session to that has the mark, the inner challenge, the number r and the spend of the session from with the blinding b.
// Where a number would have to be divided by 0, the blinding is not valid.
func (g group) matching(m api.Mirror, from api.Session, b api.Blinding, to api.Session, dare, r int) api.Blinding {
	s := g.mul(b.S, g.logarithm(m, from.Attrs), g.invert(g.logarithm(m, to.Attrs)))
	u := g.mul(b.U, from.C, g.invert(to.C))
	answers := g.shift(b.Ys, g.mul(dare, b.S), from.Attrs)
	return api.Blinding{
		S:  s,
		U:  u,
		V:  field.Sub(g.Group.Q, r, g.mul(to.R, u)),
		Ys: g.shift(answers, -g.mul(dare, s), to.Attrs),
	}
}

// logarithm returns the exponent with which G is the mark of attributes.
func (g group) logarithm(m api.Mirror, attrs []int) int {
	sum := 0
	for i, e := range exponents(attrs) {
		sum = field.Add(g.Group.Q, sum, g.mul(m.Bases[i], e))
	}
	return sum
}
