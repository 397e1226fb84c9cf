package ticket

import (
	"cloak/api"
	"cloak/field"
)

// Mark returns the mark of attributes.
func Mark(s api.Setup, attrs []int) int {
	g, ok := open(s)
	if !ok || !g.attributes(attrs) {
		return 0
	}
	return g.mark(attrs)
}

// Usable reports whether attributes are usable.
func Usable(s api.Setup, attrs []int) bool {
	g, ok := open(s)
	return ok && g.usable(attrs)
}

// attributes reports whether attrs are attributes of the setup.
func (g group) attributes(attrs []int) bool {
	return len(attrs) == len(g.Bases)-1 && g.numbers(attrs...) && attrs[0] != 0
}

// usable reports whether attrs are attributes of the setup whose mark is not 1.
func (g group) usable(attrs []int) bool { return g.attributes(attrs) && g.mark(attrs) != 1 }

// mark returns the mark of attributes.
func (g group) mark(attrs []int) int { return g.product(exponents(attrs)) }

// exponents returns the exponents of attributes.
func exponents(attrs []int) []int { return append([]int{1}, attrs...) }

// shift returns ys, to each of which f times the exponent of attributes with its index is added.
func (g group) shift(ys []int, f int, attrs []int) []int {
	l := make([]int, len(ys))
	for i, e := range exponents(attrs) {
		l[i] = field.Add(g.Group.Q, ys[i], g.mul(f, e))
	}
	return l
}
