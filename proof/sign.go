package proof

import (
	"cloak/api"
	"cloak/base"
	"cloak/field"
)

// Sign returns a signature of a message.
func Sign(s api.Setup, x, k int, msg string) (api.Signature, bool) {
	g := s.Group
	if !ValidSetup(s) || !isExponent(g.Q, x) || !isExponent(g.Q, k) {
		return api.Signature{}, false
	}
	c := dareOf(g, msg, field.Power(g, g.G, x), field.Power(g, g.G, k))
	return api.Signature{C: c, S: field.Add(g.Q, k, field.Mul(g.Q, c, x))}, true
}

// Signed reports whether a signature of a message is valid for a public key.
func Signed(s api.Setup, pub int, msg string, sig api.Signature) bool {
	g := s.Group
	if !ValidSetup(s) || !isElement(g, pub) || !isExponent(g.Q, sig.C) || !isExponent(g.Q, sig.S) {
		return false
	}
	a := field.Over(g, field.Power(g, g.G, sig.S), field.Power(g, pub, sig.C))
	return sig.C == dareOf(g, msg, pub, a)
}

// dareOf returns the challenge of a signature of a message for a public key, where a is the power with which the signature begins.
func dareOf(g api.Group, msg string, pub, a int) int {
	return field.Number(base.Text(msg)+base.Nums([]int{pub, a}), g.Q)
}
