package field

import "cloak/api"

// Make returns the group of order q with the generator 4.
func Make(q int) (api.Group, bool) {
	// For a great q, P wraps around; then the group is not valid, as q is not less than MaxModulus / 2.
	g := api.Group{P: 2*q + 1, Q: q, G: 4}
	if !ValidGroup(g) {
		return api.Group{}, false
	}
	return g, true
}

// ValidGroup reports whether a group is valid.
func ValidGroup(g api.Group) bool {
	// P < MaxModulus is checked as Q < MaxModulus / 2, so that 2Q + 1 does not overflow.
	if g.Q < 5 || g.Q >= api.MaxModulus/2 || g.P != 2*g.Q+1 || g.G < 2 {
		return false
	}
	return inSubgroup(g, g.G) && Prime(g.Q) && Prime(g.P)
}

// inSubgroup reports whether x is from 1 to P - 1 and its power with the exponent Q is 1 modulo the modulus P.
func inSubgroup(g api.Group, x int) bool {
	return x >= 1 && x < g.P && Pow(g.P, x, g.Q) == 1
}

// Element reports whether x is an element of a valid group.
func Element(g api.Group, x int) bool { return ValidGroup(g) && inSubgroup(g, x) }

// computes reports whether there are powers and products for a group: it need not be valid.
func computes(g api.Group) bool { return isModulus(g.P) && isModulus(g.Q) }

// Power returns x to the power of k.
func Power(g api.Group, x, k int) int {
	if !computes(g) {
		return 0
	}
	return Pow(g.P, x, residue(g.Q, k))
}

// Times returns the product of a and b.
func Times(g api.Group, a, b int) int {
	if !computes(g) {
		return 0
	}
	return Mul(g.P, a, b)
}

// Over returns the quotient of a and b.
func Over(g api.Group, a, b int) int {
	if !computes(g) {
		return 0
	}
	return Mul(g.P, a, Pow(g.P, b, -1))
}

// Product returns the product of bases to the power of exponents.
func Product(g api.Group, bases, exps []int) (int, bool) {
	if !computes(g) || len(bases) != len(exps) {
		return 0, false
	}
	r := residue(g.P, 1)
	for i, x := range bases {
		r = Mul(g.P, r, Power(g, x, exps[i]))
	}
	return r, true
}

// Base returns the element that is derived from a name.
func Base(g api.Group, name string) int {
	if !ValidGroup(g) {
		return 0
	}
	return Pow(g.P, 2+Number(name, g.P-3), 2)
}
