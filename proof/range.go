package proof

import (
	"cloak/api"
	"cloak/field"
)

// MaxBits is the greatest number of bits of a range proof.
const MaxBits = 60

// areBits reports whether l has as many numbers as a range proof may have bits.
func areBits(l []int) bool { return len(l) >= 1 && len(l) <= MaxBits }

// Weigh returns the product of the elements to the power of the powers of two.
func Weigh(s api.Setup, bits []int) (int, bool) {
	if !ValidSetup(s) || !areBits(bits) {
		return 0, false
	}
	r := 1
	for k, x := range bits {
		if !isElement(s.Group, x) {
			return 0, false
		}
		r = field.Times(s.Group, r, field.Power(s.Group, x, 1<<k))
	}
	return r, true
}

// powerOfBlind returns the claim that an element is a power of Blind, which means that it is a commitment to 0.
func powerOfBlind(s api.Setup, x int) api.Claim {
	return api.Claim{Vars: 1, Eqs: []api.Eq{{Target: x, Terms: []api.Term{{Var: 0, Base: s.Blind}}}}}
}

// Bits returns the clauses by which each element is a commitment to 0 or 1.
func Bits(s api.Setup, bits []int) []api.Clause {
	if _, ok := Weigh(s, bits); !ok {
		return nil
	}
	goal := make([]api.Clause, len(bits))
	for k, x := range bits {
		less := field.Over(s.Group, x, s.Group.G)
		goal[k] = api.Clause{Need: 1, Claims: []api.Claim{powerOfBlind(s, x), powerOfBlind(s, less)}}
	}
	return goal
}

// Range returns the clauses by which c is a commitment to the number with these bits.
func Range(s api.Setup, c int, bits []int) []api.Clause {
	w, ok := Weigh(s, bits)
	if !ok || !isElement(s.Group, c) {
		return nil
	}
	rest := powerOfBlind(s, field.Over(s.Group, c, w))
	return append(Bits(s, bits), api.Clause{Need: 1, Claims: []api.Claim{rest}})
}

// Split returns commitments to the bits of a number, and the knowledge for Bits.
func Split(s api.Setup, v int, blinds []int) ([]int, [][]api.Know, bool) {
	// The shift does not overflow: there are at most MaxBits blinds.
	if !ValidSetup(s) || !areBits(blinds) || v < 0 || v >= 1<<len(blinds) {
		return nil, nil, false
	}
	bits := make([]int, len(blinds))
	know := make([][]api.Know, len(blinds))
	for k, r := range blinds {
		if !isExponent(s.Group.Q, r) {
			return nil, nil, false
		}
		bit := v >> k & 1
		bits[k] = commit(s, bit, r)
		know[k] = make([]api.Know, 2)
		know[k][bit] = api.Know{Has: true, Values: []int{r}}
	}
	return bits, know, true
}

// Rest returns the value that proves the last clause of Range.
func Rest(s api.Setup, r int, blinds []int) int {
	if !ValidSetup(s) || len(blinds) > MaxBits {
		return 0
	}
	q := s.Group.Q
	sum := 0
	for k, b := range blinds {
		sum = field.Add(q, sum, field.Mul(q, b, 1<<k))
	}
	return field.Sub(q, r, sum)
}
