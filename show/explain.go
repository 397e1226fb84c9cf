package show

import (
	"slices"

	"cloak/api"
	"cloak/field"
	"cloak/proof"
)

// Explain returns the coins with which other tickets lead to the same record, and to the same points of some jurors.
func Explain(s api.Setup, m api.Mirror, t api.Task, from []api.Held, c api.Coins, to []api.Held, jurors []int) (api.Coins, bool) {
	a, e := fit(s, t, from)
	if e != api.OK || !proof.Mirrors(s, m) || !a.minority(jurors) {
		return api.Coins{}, false
	}
	b, e := fit(s, t, to)
	if e != api.OK || !sameUse(a, b) {
		return api.Coins{}, false
	}
	r, points, ok := a.show(c)
	if !ok {
		return api.Coins{}, false
	}
	d := a.recommit(m.Blind, c, b)
	d.Shares = b.lead(b.number, jurors, each(points, func(p api.Point) int { return p.Share }))
	d.Masks = b.lead(d.Blinds[len(b.names)], jurors, each(points, func(p api.Point) int { return p.Mask }))
	d.Noise, ok = proof.Explain(s, b.goal(r), Context(t, r), r.Proof, b.knowledge(d))
	if !ok {
		return api.Coins{}, false
	}
	return d, true
}

// minority reports whether jurors are as many as cannot open a use.
func (p plan) minority(jurors []int) bool {
	return len(jurors) == p.task.Quorum-1 && different(jurors) && !slices.ContainsFunc(jurors, func(j int) bool { return j < 1 || j > p.task.Jurors })
}

// sameUse reports whether two holders use the same tickets in the same way.
func sameUse(a, b *holder) bool {
	one, _ := Encode(a.used())
	other, _ := Encode(b.used())
	return one == other
}

// recommit returns the Blinds and Bits with which the commitments of the holder a with the coins c are those of the holder b, where beta is the exponent of Blind.
func (a *holder) recommit(beta int, c api.Coins, b *holder) api.Coins {
	part := a.invert(beta)
	move := func(blinds, from, to []int) []int {
		l := make([]int, len(blinds))
		for i, r := range blinds {
			l[i] = field.Add(a.Group.Q, r, a.mul(a.sub(from[i], to[i]), part))
		}
		return l
	}
	d := api.Coins{Blinds: move(c.Blinds, a.committed(), b.committed())}
	for i, p := range a.atoms {
		n := len(c.Bits[i])
		d.Bits = append(d.Bits, move(c.Bits[i], bitsOf(a.gap(p), n), bitsOf(b.gap(p), n)))
	}
	return d
}

// bitsOf returns the n bits of a number, or of 0 for a negative one.
func bitsOf(v, n int) []int {
	l := make([]int, n)
	for k := range l {
		l[k] = max(0, v) >> k & 1
	}
	return l
}

// lead returns the coefficients, without the first one, of the polynomial that has a value at 0, and for each of the jurors what all has for the juror.
func (g group) lead(value int, jurors, all []int) []int {
	xs, ys := []int{0}, []int{value}
	for _, j := range jurors {
		xs = append(xs, j)
		ys = append(ys, all[j-1])
	}
	p, _ := field.Through(g.Group.Q, xs, ys)
	return slices.Clone(p[1:])
}
