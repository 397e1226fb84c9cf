package ticket

import (
	"cloak/api"
	"cloak/field"
	"cloak/proof"
)

// group has the operations of the group of a valid setup. They do not test again whether the setup is valid, which takes much longer than most of them.
type group struct{ api.Setup }

// open returns the group of a setup, and reports whether the setup is valid.
func open(s api.Setup) (group, bool) { return group{s}, proof.ValidSetup(s) }

// numbers reports whether each of l is from 0 to Q - 1.
func (g group) numbers(l ...int) bool {
	for _, x := range l {
		if x < 0 || x >= g.Group.Q {
			return false
		}
	}
	return true
}

// factors reports whether each of l is from 1 to Q - 1, so that one can divide by it.
func (g group) factors(l ...int) bool {
	for _, x := range l {
		if x == 0 {
			return false
		}
	}
	return g.numbers(l...)
}

// elements reports whether each of l is an element.
func (g group) elements(l ...int) bool {
	for _, x := range l {
		if x < 1 || x >= g.Group.P || field.Pow(g.Group.P, x, g.Group.Q) != 1 {
			return false
		}
	}
	return true
}

// proper reports whether each of l is an element other than 1.
func (g group) proper(l ...int) bool {
	for _, x := range l {
		if x == 1 {
			return false
		}
	}
	return g.elements(l...)
}

// power returns the element x to the power of k.
func (g group) power(x, k int) int { return field.Power(g.Group, x, k) }

// times returns the product of elements.
func (g group) times(l ...int) int {
	r := 1
	for _, x := range l {
		r = field.Times(g.Group, r, x)
	}
	return r
}

// product returns the product of the bases to the power of as many exponents.
func (g group) product(exps []int) int {
	r, _ := field.Product(g.Group, g.Bases, exps)
	return r
}

// mul returns the product of numbers modulo Q.
func (g group) mul(l ...int) int {
	r := 1
	for _, x := range l {
		r = field.Mul(g.Group.Q, r, x)
	}
	return r
}

// invert returns the inverse of a number modulo Q, or 0 if it has none.
func (g group) invert(x int) int { return field.Pow(g.Group.Q, x, -1) }

// answers reports whether x to the power of r is y to the power of c, times first. Then r answers the challenge c of somebody to whom first was shown, by one who knows the exponent that leads from x to y.
func (g group) answers(x, r, y, c, first int) bool {
	return g.power(x, r) == g.times(g.power(y, c), first)
}
