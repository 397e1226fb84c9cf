package proof_test

import (
	"math"
	"slices"
	"testing"

	"cloak/api"
	"cloak/field"
	"cloak/proof"
)

// badBits are no bits for the small setup.
var badBits = [][]int{nil, {}, slices.Repeat([]int{4}, 61), {0}, {5}, {4, 5}, {-19}, {4, 27}, {4, 4, math.MinInt}, {math.MaxInt, 4}, append(slices.Repeat([]int{4}, 59), 5)}

// weight returns the product of bits[k] to the power of 2^k, where each element is squared k times.
func weight(g api.Group, bits []int) int {
	r := 1
	for k, x := range bits {
		for range k {
			x = field.Times(g, x, x)
		}
		r = field.Times(g, r, x)
	}
	return r
}

// P3.8
func TestWeigh(t *testing.T) {
	if w, ok := proof.Weigh(small, []int{4, 4}); !ok || w != 18 {
		t.Error(w, ok)
	}
	r := random()
	for _, s := range setups {
		for n := 1; n <= 60; n++ {
			bits := make([]int, n)
			for k := range bits {
				bits[k] = power(s.Group, s.Group.G, r.IntN(s.Group.Q))
			}
			if w, ok := proof.Weigh(s, bits); !ok || w != weight(s.Group, bits) {
				t.Error(s, bits, w, ok)
			}
		}
	}
	for _, bits := range badBits {
		if w, ok := proof.Weigh(small, bits); ok || w != 0 {
			t.Error(bits, w, ok)
		}
	}
	for _, s := range notSetups {
		if w, ok := proof.Weigh(s, []int{4, 4}); ok || w != 0 {
			t.Error(s, w, ok)
		}
	}
}

// blindClaim returns the claim that an element is a power of Blind.
func blindClaim(s api.Setup, x int) api.Claim {
	return api.Claim{Vars: 1, Eqs: []api.Eq{{Target: x, Terms: []api.Term{{Var: 0, Base: s.Blind}}}}}
}

// P3.8
func TestBitsAndRange(t *testing.T) {
	r := random()
	for _, s := range setups {
		for _, n := range []int{1, 2, 3, 17, 59, 60} {
			bits := make([]int, n)
			var want []api.Clause
			for k := range bits {
				bits[k] = power(s.Group, s.Group.G, r.IntN(s.Group.Q))
				want = append(want, one(1, blindClaim(s, bits[k]), blindClaim(s, field.Over(s.Group, bits[k], s.Group.G)))...)
			}
			if goal := proof.Bits(s, bits); !equalGoals(goal, want) || !proof.ValidGoal(s, goal) {
				t.Error(s, bits, goal)
			}
			c := power(s.Group, s.Group.G, r.IntN(s.Group.Q))
			want = append(want, one(1, blindClaim(s, field.Over(s.Group, c, weight(s.Group, bits))))...)
			if goal := proof.Range(s, c, bits); !equalGoals(goal, want) || !proof.ValidGoal(s, goal) {
				t.Error(s, c, bits, goal)
			}
		}
	}
	goal := proof.Range(small, proof.Commit(small, 2, 3), []int{12, 1})
	if len(goal) != 3 || goal[0].Claims[1].Eqs[0].Target != 3 || goal[1].Claims[1].Eqs[0].Target != 6 || goal[2].Claims[0].Eqs[0].Target != 4 {
		t.Error(goal)
	}
}

// P3.8
func TestRangeFailures(t *testing.T) {
	for _, bits := range badBits {
		if a, b := proof.Bits(small, bits), proof.Range(small, 4, bits); len(a) != 0 || len(b) != 0 {
			t.Error(bits, a, b)
		}
	}
	for _, c := range []int{math.MinInt, -19, 0, 5, 22, 27, math.MaxInt} {
		if goal := proof.Range(small, c, []int{4, 4}); len(goal) != 0 {
			t.Error(c, goal)
		}
	}
	for _, s := range notSetups {
		if a, b := proof.Bits(s, []int{4, 4}), proof.Range(s, 4, []int{4, 4}); len(a) != 0 || len(b) != 0 {
			t.Error(s, a, b)
		}
	}
}

// P3.9
func TestSplit(t *testing.T) {
	bits, know, ok := proof.Split(small, 2, []int{1, 2})
	if !ok || !slices.Equal(bits, []int{12, 1}) || len(know) != 2 || !know[0][0].Has || !know[1][1].Has {
		t.Error(bits, know, ok)
	}
	r := random()
	for _, s := range setups {
		for _, n := range []int{1, 2, 5, 31, 32, 59, 60} {
			blinds := make([]int, n)
			for k := range blinds {
				blinds[k] = r.IntN(s.Group.Q)
			}
			for _, v := range []int{0, 1, 1<<n - 1, 1 << (n - 1), r.IntN(1 << n), r.IntN(1 << n)} {
				bits, know, ok := proof.Split(s, v, blinds)
				if !ok || len(bits) != n || len(know) != n {
					t.Fatal(s, v, blinds, bits, know, ok)
				}
				rest := v
				for k, b := range blinds {
					bit := rest % 2
					rest /= 2
					has, not := know[k][bit], know[k][1-bit]
					if bits[k] != proof.Commit(s, bit, b) || len(know[k]) != 2 || !has.Has || !slices.Equal(has.Values, []int{b}) || not.Has || not.Values != nil {
						t.Fatal(s, v, blinds, bits, know)
					}
				}
			}
		}
	}
}

// P3.9
func TestSplitFailures(t *testing.T) {
	fail := func(s api.Setup, v int, blinds []int) {
		t.Helper()
		if bits, know, ok := proof.Split(s, v, blinds); ok || len(bits) != 0 || len(know) != 0 {
			t.Error(s, v, blinds, bits, know, ok)
		}
	}
	for _, v := range []int{math.MinInt, -1, 4, 5, 1 << 60, math.MaxInt} {
		fail(small, v, []int{1, 2})
	}
	fail(small, 1<<60, make([]int, 60))
	fail(small, -1, make([]int, 60))
	for _, blinds := range [][]int{nil, {}, make([]int, 61), make([]int, 64), make([]int, 65), {11}, {-1}, {0, 11}, {math.MinInt, 0}, {0, math.MaxInt}} {
		fail(small, 0, blinds)
	}
	for _, s := range notSetups {
		fail(s, 2, []int{1, 2})
	}
}

// P3.9
func TestRest(t *testing.T) {
	if r := proof.Rest(small, 3, []int{1, 2}); r != 9 {
		t.Error(r)
	}
	source := random()
	for _, s := range setups {
		q := s.Group.Q
		for _, r := range ints {
			for _, n := range []int{0, 1, 2, 31, 60} {
				blinds := make([]int, n)
				want, two := field.Add(q, r, 0), 1
				for k := range blinds {
					blinds[k] = int(source.Uint64())
					want = field.Sub(q, want, field.Mul(q, blinds[k], two))
					two = field.Add(q, two, two)
				}
				if got := proof.Rest(s, r, blinds); got != want {
					t.Error(s, r, blinds, got, want)
				}
			}
			if got := proof.Rest(s, r, make([]int, 61)); got != 0 {
				t.Error(s, r, got)
			}
		}
	}
	for _, s := range notSetups {
		if r := proof.Rest(s, 3, []int{1, 2}); r != 0 {
			t.Error(s, r)
		}
	}
}

// P3.19: with Split and Rest, a range is proven.
func TestRangeProofs(t *testing.T) {
	for _, s := range []api.Setup{small, large} {
		for v := range 8 {
			blinds := []int{1, s.Group.Q - 1, 5}
			bits, know, _ := proof.Split(s, v, blinds)
			c := proof.Commit(s, v, 7)
			goal := proof.Range(s, c, bits)
			know = append(know, []api.Know{known(proof.Rest(s, 7, blinds))})
			noise := api.Noise{}
			for i, clause := range goal {
				dares, nums := make([]int, len(clause.Claims)), make([][]int, len(clause.Claims))
				for k := range clause.Claims {
					if !know[i][k].Has {
						dares[k] = 3
					}
					nums[k] = []int{i + k}
				}
				noise.Dares, noise.Nums = append(noise.Dares, dares), append(noise.Nums, nums)
			}
			p, e := proof.Prove(s, goal, "range", know, noise)
			if e != api.OK || !proof.Verify(s, goal, "range", p) {
				t.Error(s, v, p, e)
			}
		}
	}
}

// P3.19: values for one claim of each clause open c as a commitment to the number with these bits.
func TestRangeSoundness(t *testing.T) {
	q := tiny.Group.Q
	elements := elementsOf(tiny.Group)
	for _, x := range tuples(q, 3) {
		c, bits := elements[x[0]], []int{elements[x[1]], elements[x[2]]}
		goal := proof.Range(tiny, c, bits)
		for v := range 4 {
			for _, r := range tuples(q, 3) {
				holds := proof.Holds(tiny, goal[0].Claims[v%2], r[:1]) && proof.Holds(tiny, goal[1].Claims[v/2], r[1:2]) && proof.Holds(tiny, goal[2].Claims[0], r[2:])
				if holds && c != proof.Commit(tiny, v, r[0]+2*r[1]+r[2]) {
					t.Error(c, bits, v, r)
				}
			}
		}
	}
}
