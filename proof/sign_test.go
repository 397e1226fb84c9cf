package proof_test

import (
	"math"
	"testing"

	"cloak/api"
	"cloak/base"
	"cloak/field"
	"cloak/proof"
)

// P3.10: numbers that were calculated by another program.
func TestSignExamples(t *testing.T) {
	for _, x := range []struct {
		setup     api.Setup
		x, k, pub int
		msg       string
		want      api.Signature
	}{
		{small, 3, 5, 18, "gate", api.Signature{C: 5, S: 9}},
		{small, 3, 5, 18, "hello", api.Signature{C: 0, S: 5}},
		{large, 1000000000000000000, 79792266297612001, 925470608792023371, "a message", api.Signature{C: 143825449110644668, S: 12670585179072748}},
		{large, 0, 0, 1, "", api.Signature{C: 742891953523719728, S: 0}},
	} {
		sig, ok := proof.Sign(x.setup, x.x, x.k, x.msg)
		if !ok || sig != x.want || !proof.Signed(x.setup, x.pub, x.msg, sig) {
			t.Error(x, sig, ok)
		}
	}
}

// P3.10, P3.20
func TestSign(t *testing.T) {
	for _, s := range setups {
		g := s.Group
		for _, x := range []int{0, 1, 2, g.Q - 1} {
			for _, k := range []int{0, 1, 3, g.Q - 1} {
				for _, msg := range []string{"", "a", "1:a,", string([]byte{0, 200, 10})} {
					pub := power(g, g.G, x)
					c := field.Number(base.Text(msg)+base.Nums([]int{pub, power(g, g.G, k)}), g.Q)
					sig, ok := proof.Sign(s, x, k, msg)
					if !ok || sig != (api.Signature{C: c, S: field.Add(g.Q, k, field.Mul(g.Q, c, x))}) || !proof.Signed(s, pub, msg, sig) {
						t.Error(s, x, k, msg, sig, ok)
					}
				}
			}
		}
	}
	for _, x := range [][2]int{{11, 5}, {-1, 5}, {3, 11}, {3, -1}, {math.MinInt, 0}, {0, math.MaxInt}} {
		if sig, ok := proof.Sign(small, x[0], x[1], ""); ok || sig != (api.Signature{}) {
			t.Error(x, sig, ok)
		}
	}
	for _, s := range notSetups {
		if sig, ok := proof.Sign(s, 3, 5, "gate"); ok || sig != (api.Signature{}) {
			t.Error(s, sig, ok)
		}
	}
}

// P3.10: by the definition, for all numbers, also those that are no elements or no exponents.
func TestSignedAll(t *testing.T) {
	g := small.Group
	for pub := -2; pub <= g.P+6; pub++ {
		for c := -2; c <= g.Q+2; c++ {
			for s := -2; s <= g.Q+2; s++ {
				want := false
				for _, e := range elementsOf(g) {
					want = want || e == pub
				}
				want = want && c >= 0 && c < g.Q && s >= 0 && s < g.Q
				if want {
					a := field.Times(g, power(g, 4, s), power(g, pub, -c))
					want = c == field.Number(base.Text("m")+base.Nums([]int{pub, a}), g.Q)
				}
				if got := proof.Signed(small, pub, "m", api.Signature{C: c, S: s}); got != want {
					t.Error(pub, c, s, got)
				}
			}
		}
	}
}

// P3.10, P3.20: a signature is for one key, one message and one pair of numbers.
func TestSignedFailures(t *testing.T) {
	g := large.Group
	sig, _ := proof.Sign(large, 5, 77, "message")
	if !proof.Signed(large, 1024, "message", sig) {
		t.Error(sig)
	}
	for _, x := range []struct {
		pub int
		msg string
		sig api.Signature
	}{
		{256, "message", sig}, {1, "message", sig}, {0, "message", sig}, {5, "message", sig}, {1024 + g.P, "message", sig}, {1024 - g.P, "message", sig}, {g.P - 1024, "message", sig},
		{1024, "massage", sig}, {1024, "", sig},
		{1024, "message", api.Signature{}},
		{1024, "message", api.Signature{C: sig.C, S: sig.S + 1}}, {1024, "message", api.Signature{C: sig.C + 1, S: sig.S}},
		{1024, "message", api.Signature{C: sig.C + g.Q, S: sig.S}}, {1024, "message", api.Signature{C: sig.C - g.Q, S: sig.S}},
		{1024, "message", api.Signature{C: sig.C, S: sig.S + g.Q}}, {1024, "message", api.Signature{C: sig.C, S: sig.S - g.Q}},
	} {
		if proof.Signed(large, x.pub, x.msg, x.sig) {
			t.Error(x)
		}
	}
	for _, s := range notSetups {
		if proof.Signed(s, 18, "hello", api.Signature{C: 0, S: 5}) {
			t.Error(s)
		}
	}
}

// P3.20: each signature that is accepted for a key is what Sign returns for exactly one k.
func TestSignaturesOfKeys(t *testing.T) {
	g := small.Group
	for x := range g.Q {
		pub := power(g, 4, x)
		for _, c := range tuples(g.Q, 2) {
			sig, found := api.Signature{C: c[0], S: c[1]}, 0
			for k := range g.Q {
				if made, _ := proof.Sign(small, x, k, "m"); made == sig {
					found++
				}
			}
			want := 0
			if proof.Signed(small, pub, "m", sig) {
				want = 1
			}
			if found != want {
				t.Error(x, sig, found)
			}
		}
	}
}
