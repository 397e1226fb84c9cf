package field_test

import (
	"math"
	"math/big"
	"slices"
	"testing"

	"cloak/api"
	"cloak/field"
)

// orders are orders of groups that are small enough to list all elements.
var orders = []int{5, 11, 23, 29, 41, 53, 83, 89, 113}

// great is the greatest group with the generator 4.
var great = api.Group{P: 2305843009213691579, Q: 1152921504606845789, G: 4}

// odd are groups that are not valid, but whose P and Q are moduli.
var odd = []api.Group{{P: 12, Q: 5}, {P: 1, Q: 1}, {P: 23, Q: 1, G: -1}, {P: 7, Q: 3, G: 2}, {P: 1, Q: greatest}, {P: greatest, Q: 1 << 60, G: math.MaxInt}}

// bad are groups of which P or Q is not a modulus.
var bad = []api.Group{{}, {P: 23, G: 4}, {Q: 11, G: 4}, {P: -23, Q: 11}, {P: 23, Q: -11}, {P: api.MaxModulus, Q: 11}, {P: 23, Q: api.MaxModulus}, {P: math.MinInt, Q: math.MaxInt}}

func group(t *testing.T, q int) api.Group {
	t.Helper()
	g, ok := field.Make(q)
	if !ok || g != (api.Group{P: 2*q + 1, Q: q, G: 4}) {
		t.Fatal(q, g, ok)
	}
	return g
}

func isPrime(n int) bool { return n > 0 && big.NewInt(int64(n)).ProbablyPrime(20) }

// squares returns the residues of the squares of 1 to P - 1, in ascending order.
func squares(g api.Group) []int {
	is := make([]bool, g.P)
	for x := 1; x < g.P; x++ {
		is[x*x%g.P] = true
	}
	var l []int
	for x, ok := range is {
		if ok {
			l = append(l, x)
		}
	}
	return l
}

// P2.5
func TestMake(t *testing.T) {
	for q := -50; q < 3000; q++ {
		g, ok := field.Make(q)
		if want := q >= 5 && isPrime(q) && isPrime(2*q+1); ok != want {
			t.Error(q, ok)
		}
		if ok && g != (api.Group{P: 2*q + 1, Q: q, G: 4}) || !ok && g != (api.Group{}) || field.ValidGroup(g) != ok {
			t.Error(q, g)
		}
	}
	if g := group(t, great.Q); g != great {
		t.Error(g)
	}
	for q := great.Q + 1; q < great.Q+2000; q++ {
		if g, ok := field.Make(q); ok || g != (api.Group{}) {
			t.Error(q, g, ok)
		}
	}
	// The least q whose 2q + 1 is a prime, but too great.
	if q := 1152921504606849959; !isPrime(q) || !isPrime(2*q+1) {
		t.Error("not a pair of primes")
	} else if g, ok := field.Make(q); ok || g != (api.Group{}) {
		t.Error(g, ok)
	}
	for _, q := range []int{math.MinInt, -1 << 62, -12, 1 << 60, 1 << 61, 1<<62 - 1, 1 << 62, 1<<62 + 5, math.MaxInt} {
		if g, ok := field.Make(q); ok || g != (api.Group{}) {
			t.Error(q, g, ok)
		}
	}
}

// P2.5: by the definition, for all small numbers.
func TestSmallGroups(t *testing.T) {
	for q := -2; q <= 30; q++ {
		for p := -2; p <= 62; p++ {
			for x := -2; x <= 64; x++ {
				want := q >= 5 && p == 2*q+1 && isPrime(p) && isPrime(q) && x >= 2 && x < p && exactPow(p, x, q) == 1
				if got := field.ValidGroup(api.Group{P: p, Q: q, G: x}); got != want {
					t.Error(p, q, x, got)
				}
			}
		}
	}
}

// P2.5
func TestGreatGroups(t *testing.T) {
	for _, x := range []int{4, 9, 25, field.Mul(great.P, -1<<60, -1<<60)} {
		g := api.Group{P: great.P, Q: great.Q, G: x}
		if !field.ValidGroup(g) || !field.Element(g, 4) || !field.Element(g, x) || field.Element(g, great.P-x) {
			t.Error(g)
		}
	}
	for _, x := range []int{math.MinInt, -4, 0, 1, great.P - 4, great.P - 1, great.P, great.P + 4, math.MaxInt} {
		if g := (api.Group{P: great.P, Q: great.Q, G: x}); field.ValidGroup(g) || field.Element(g, 4) {
			t.Error(g)
		}
	}
	for _, g := range slices.Concat(odd, bad, []api.Group{{P: -1, Q: math.MaxInt, G: 2}, {P: 5, Q: 2, G: 4}, {P: 27, Q: 13, G: 4}, {P: 31, Q: 15, G: 4}}) {
		if field.ValidGroup(g) || field.Element(g, 1) || field.Element(g, 4) {
			t.Error(g)
		}
	}
}

// P2.5
func TestElements(t *testing.T) {
	for _, q := range orders {
		g := group(t, q)
		elements := squares(g)
		for x := -3 * g.P; x < 3*g.P; x++ {
			if got, want := field.Element(g, x), slices.Contains(elements, x); got != want {
				t.Error(q, x, got)
			}
		}
	}
	for _, x := range []int{math.MinInt, -4, 0, great.P, great.P + 4, math.MaxInt} {
		if field.Element(great, x) {
			t.Error(x)
		}
	}
}

// P2.6
func TestGroupExamples(t *testing.T) {
	g := group(t, 11)
	for i, c := range []struct{ got, want int }{
		{field.Power(g, 4, 3), 18},
		{field.Power(g, 4, -1), 6},
		{field.Power(g, 4, 12), 4},
		{field.Power(g, 4, -12), 6},
		{field.Power(g, 0, 11), 1},
		{field.Power(g, 0, 12), 0},
		{field.Power(g, 5, 11), 1},
		{field.Times(g, 20, 20), 9},
		{field.Over(g, 16, 18), 6},
		{field.Over(g, 5, 0), 0},
		{field.Over(g, 0, 5), 0},
		{field.Power(api.Group{P: 12, Q: 5}, 5, 7), 1},
		{field.Over(api.Group{P: 12, Q: 5}, 5, 2), 0},
	} {
		if c.got != c.want {
			t.Error(i, c.got, c.want)
		}
	}
}

// P2.6: in valid groups and in others.
func TestGroupOperations(t *testing.T) {
	for _, g := range append([]api.Group{group(t, 11), group(t, 113), great}, odd...) {
		for _, a := range ints {
			for _, b := range ints {
				e := exact(g.Q, b, 0, (*big.Int).Add)
				if got, want := field.Power(g, a, b), exactPow(g.P, a, e); got != want {
					t.Error("Power", g, a, b, got, want)
				}
				if got, want := field.Times(g, a, b), exact(g.P, a, b, (*big.Int).Mul); got != want {
					t.Error("Times", g, a, b, got, want)
				}
				if got, want := field.Over(g, a, b), exact(g.P, a, exactPow(g.P, b, -1), (*big.Int).Mul); got != want {
					t.Error("Over", g, a, b, got, want)
				}
			}
		}
	}
	for _, g := range bad {
		for _, a := range ints {
			if field.Power(g, a, 2) != 0 || field.Times(g, a, 1) != 0 || field.Over(g, a, 1) != 0 {
				t.Error(g, a)
			}
		}
	}
}

// P2.6
func TestProduct(t *testing.T) {
	g := group(t, 11)
	for _, c := range []struct {
		g           api.Group
		bases, exps []int
		want        int
		ok          bool
	}{
		{g, []int{2, 3}, []int{1, 2}, 18, true},
		{g, []int{4, 6}, []int{5, 5}, 1, true},
		{g, []int{4, 4}, []int{-1, 12}, 1, true},
		{g, []int{-1, 25}, []int{1, -10}, 21, true},
		{g, []int{0}, []int{3}, 0, true},
		{g, nil, nil, 1, true},
		{g, []int{}, nil, 1, true},
		{api.Group{P: 1, Q: 1}, nil, nil, 0, true},
		{api.Group{P: 12, Q: 5}, []int{5, 7}, []int{6, 1}, 11, true},
		{g, []int{2}, nil, 0, false},
		{g, nil, []int{2}, 0, false},
		{g, []int{2, 3}, []int{1}, 0, false},
		{g, []int{2}, []int{1, 0}, 0, false},
	} {
		if x, ok := field.Product(c.g, c.bases, c.exps); x != c.want || ok != c.ok {
			t.Error(c, x, ok)
		}
	}
	for _, g := range bad {
		if x, ok := field.Product(g, []int{4}, []int{1}); x != 0 || ok {
			t.Error(g, x, ok)
		}
		if x, ok := field.Product(g, nil, nil); x != 0 || ok {
			t.Error(g, x, ok)
		}
	}
	r := random()
	for range 100 {
		bases, exps, want := make([]int, 20), make([]int, 20), 1
		for i := range bases {
			bases[i], exps[i] = int(r.Uint64()), int(r.Uint64())
			want = field.Times(great, want, field.Power(great, bases[i], exps[i]))
		}
		if x, ok := field.Product(great, bases, exps); x != want || !ok {
			t.Error(bases, exps, x, ok)
		}
	}
}

// P2.7
func TestBase(t *testing.T) {
	groups := []api.Group{great}
	for _, q := range orders {
		groups = append(groups, group(t, q))
	}
	for _, g := range groups {
		for _, name := range []string{"", "a", "b", "holder", "blind", "a longer name than others"} {
			n := 2 + field.Number(name, g.P-3)
			x := field.Base(g, name)
			if x != exact(g.P, n, n, (*big.Int).Mul) || x == 1 || !field.Element(g, x) {
				t.Error(g, name, x)
			}
		}
	}
	for _, g := range slices.Concat(odd, bad, []api.Group{{P: 23, Q: 11, G: 5}, {P: 27, Q: 13, G: 4}}) {
		if x := field.Base(g, "a"); x != 0 {
			t.Error(g, x)
		}
	}
}

// P2.14
func TestGroupLaws(t *testing.T) {
	for _, q := range orders {
		g := group(t, q)
		elements := squares(g)
		if len(elements) != q {
			t.Error(q, len(elements))
		}
		for _, x := range elements {
			if x == 1 {
				continue
			}
			var powers []int
			for k := range q {
				powers = append(powers, field.Power(g, x, k))
			}
			slices.Sort(powers)
			if !slices.Equal(powers, elements) {
				t.Error("powers", q, x)
			}
		}
	}
	g := group(t, 23)
	for _, a := range squares(g) {
		for _, b := range squares(g) {
			if !field.Element(g, field.Times(g, a, b)) || !field.Element(g, field.Over(g, a, b)) {
				t.Error("products and quotients", a, b)
			}
			if field.Times(g, field.Over(g, a, b), b) != a {
				t.Error("quotient", a, b)
			}
		}
		for k := -50; k <= 50; k++ {
			x := field.Power(g, a, k)
			if !field.Element(g, x) || x != field.Power(g, a, k+g.Q) || x != exactPow(g.P, a, k) {
				t.Error("power", a, k)
			}
		}
	}
}
