package proof

import (
	"slices"

	"cloak/api"
	"cloak/field"
)

// isExponent reports whether x is from 0 to q - 1.
func isExponent(q, x int) bool { return x >= 0 && x < q }

// isElement reports whether x is an element of the valid group g. Unlike field.Element, it does not test again whether the group is valid, which takes much longer.
func isElement(g api.Group, x int) bool {
	return x >= 1 && x < g.P && field.Pow(g.P, x, g.Q) == 1
}

// elements returns isElement of the valid group g as a function that remembers its answers: the same few bases stand in most equations of a goal.
func elements(g api.Group) func(x int) bool {
	known := map[int]bool{}
	return func(x int) bool {
		is, ok := known[x]
		if !ok {
			is = isElement(g, x)
			known[x] = is
		}
		return is
	}
}

// areBases reports whether l has as many numbers as a setup may have bases.
func areBases(l []int) bool { return len(l) >= 2 && len(l) <= api.MaxBases }

// Make returns the setup whose bases have the exponents of a mirror.
func Make(g api.Group, m api.Mirror) (api.Setup, bool) {
	isSecret := func(x int) bool { return x != 0 && isExponent(g.Q, x) }
	if !field.ValidGroup(g) || !areBases(m.Bases) || !isSecret(m.Blind) {
		return api.Setup{}, false
	}
	s := api.Setup{Group: g, Blind: field.Power(g, g.G, m.Blind)}
	for _, x := range m.Bases {
		if !isSecret(x) {
			return api.Setup{}, false
		}
		s.Bases = append(s.Bases, field.Power(g, g.G, x))
	}
	return s, true
}

// ValidSetup reports whether a setup is valid.
func ValidSetup(s api.Setup) bool {
	isBase := func(x int) bool { return x != 1 && isElement(s.Group, x) }
	if !field.ValidGroup(s.Group) || !areBases(s.Bases) || !isBase(s.Blind) {
		return false
	}
	for _, x := range s.Bases {
		if !isBase(x) {
			return false
		}
	}
	return true
}

// Mirrors reports whether m is a mirror of s.
func Mirrors(s api.Setup, m api.Mirror) bool {
	// What Make returns is valid, so s need not be tested.
	made, ok := Make(s.Group, m)
	return ok && s.Blind == made.Blind && slices.Equal(s.Bases, made.Bases)
}

// Commit returns the commitment to v with the blind r.
func Commit(s api.Setup, v, r int) int {
	if !ValidSetup(s) {
		return 0
	}
	return commit(s, v, r)
}

// commit returns the commitment to v with the blind r in a valid setup.
func commit(s api.Setup, v, r int) int {
	return field.Times(s.Group, field.Power(s.Group, s.Group.G, v), field.Power(s.Group, s.Blind, r))
}
