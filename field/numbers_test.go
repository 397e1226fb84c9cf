package field_test

import (
	"math"
	"math/big"
	"math/rand/v2"
	"testing"

	"cloak/api"
	"cloak/field"
)

// greatest is the greatest modulus. It is a prime.
const greatest = api.MaxModulus - 1

// notModuli are not moduli.
var notModuli = []int{math.MinInt, -greatest, -11, -1, 0, api.MaxModulus, api.MaxModulus + 1, 1 << 62, math.MaxInt}

// moduli are moduli of all sizes, primes among them.
var moduli = []int{1, 2, 3, 4, 5, 7, 12, 64, 97, 1009, 65536, 1<<31 - 1, 1 << 32, 1 << 60, 1<<60 - 107, greatest - 1, greatest}

// ints are numbers at which calculations overflow if they are not done in the integers.
var ints = []int{
	math.MinInt, math.MinInt + 1, -1<<62 - 1, -1 << 62, -greatest - 1, -greatest, -1 << 32, -12, -11, -7, -2, -1, 0,
	1, 2, 3, 5, 8, 12, 97, 1<<31 - 1, 1 << 32, 1<<60 + 1, greatest - 1, greatest, greatest + 1, 1 << 62, math.MaxInt - 1, math.MaxInt,
}

// random returns a source of numbers that are the same in each run.
func random() *rand.Rand { return rand.New(rand.NewPCG(1, 2)) }

// exact returns the residue modulo n of the result of an operation in the integers.
func exact(n, a, b int, operation func(z, x, y *big.Int) *big.Int) int {
	z := operation(new(big.Int), big.NewInt(int64(a)), big.NewInt(int64(b)))
	return int(z.Mod(z, big.NewInt(int64(n))).Int64())
}

// exactPow returns the residue modulo n of a to the power of b, and 0 if there is none.
func exactPow(n, a, b int) int {
	m := big.NewInt(int64(n))
	// The base is reduced first: Exp gives the wrong sign if both the base and the exponent are negative.
	base := new(big.Int).Mod(big.NewInt(int64(a)), m)
	z := new(big.Int).Exp(base, big.NewInt(int64(b)), m)
	if z == nil {
		return 0
	}
	return int(z.Mod(z, m).Int64())
}

// P2.1
func TestSmallPrimes(t *testing.T) {
	composite := make([]bool, 20000)
	for n := 2; n < len(composite); n++ {
		for m := 2 * n; m < len(composite); m += n {
			composite[m] = true
		}
	}
	for n := range composite {
		if got, want := field.Prime(n), n >= 2 && !composite[n]; got != want {
			t.Error(n, got)
		}
	}
}

// P2.1
func TestPrimesWithLiars(t *testing.T) {
	// The least composite numbers that pass the test for the first 1, 2, 3, .. witnesses, as far as they are less than MaxModulus.
	for _, n := range []int{2047, 1373653, 25326001, 3215031751, 2152302898747, 3474749660383, 341550071728321} {
		if field.Prime(n) {
			t.Error(n)
		}
	}
	// Numbers of Carmichael, squares and products of primes without a factor among the witnesses.
	for _, n := range []int{561, 1105, 1729, 41 * 41, 41 * 43, 3367 * 3367, 1000003 * 1000003, 1073741789 * 1073741789, 1000000007 * 998244353, 101 * 151 * 251, 9746347772161} {
		if field.Prime(n) {
			t.Error(n)
		}
	}
}

// P2.1
func TestGreatPrimes(t *testing.T) {
	if !field.Prime(greatest) {
		t.Error("the greatest modulus")
	}
	for _, n := range notModuli {
		if field.Prime(n) {
			t.Error(n)
		}
	}
	// 2^61 + 15 and 2^62 - 57 are primes, but too great.
	for _, n := range []int{1<<61 + 15, 1<<62 - 57} {
		if !big.NewInt(int64(n)).ProbablyPrime(20) || field.Prime(n) {
			t.Error(n)
		}
	}
	r := random()
	for range 3000 {
		n := r.IntN(1 << (10 + r.IntN(52)))
		if got, want := field.Prime(n), big.NewInt(int64(n)).ProbablyPrime(20); got != want {
			t.Error(n, got)
		}
	}
	for n := greatest - 500; n <= greatest; n++ {
		if got, want := field.Prime(n), big.NewInt(int64(n)).ProbablyPrime(20); got != want {
			t.Error(n, got)
		}
	}
}

// P2.2
func TestNumberExamples(t *testing.T) {
	for i, c := range []struct{ got, want int }{
		{field.Add(11, 9, 5), 3},
		{field.Sub(11, 9, 5), 4},
		{field.Mul(11, 9, 5), 1},
		{field.Add(11, -9, 5), 7},
		{field.Sub(11, 5, 9), 7},
		{field.Mul(11, -9, 5), 10},
		{field.Add(1, 9, 5), 0},
		{field.Pow(11, 2, 10), 1},
		{field.Pow(11, 2, -1), 6},
		{field.Pow(12, 2, -1), 0},
		{field.Pow(1, 0, 0), 0},
		{field.Pow(1, 7, -7), 0},
		{field.Pow(11, 0, 0), 1},
		{field.Pow(11, 22, 0), 1},
		{field.Pow(12, 2, 0), 1},
		{field.Pow(11, 0, 3), 0},
		{field.Pow(11, 0, -3), 0},
		{field.Pow(11, -2, 3), 3},
	} {
		if c.got != c.want {
			t.Error(i, c.got, c.want)
		}
	}
}

// P2.2, P6: sums, differences, products and powers are exact.
func TestArithmetic(t *testing.T) {
	for _, n := range moduli {
		for _, a := range ints {
			for _, b := range ints {
				if got, want := field.Add(n, a, b), exact(n, a, b, (*big.Int).Add); got != want {
					t.Error("Add", n, a, b, got, want)
				}
				if got, want := field.Sub(n, a, b), exact(n, a, b, (*big.Int).Sub); got != want {
					t.Error("Sub", n, a, b, got, want)
				}
				if got, want := field.Mul(n, a, b), exact(n, a, b, (*big.Int).Mul); got != want {
					t.Error("Mul", n, a, b, got, want)
				}
				if got, want := field.Pow(n, a, b), exactPow(n, a, b); got != want {
					t.Error("Pow", n, a, b, got, want)
				}
			}
		}
	}
}

// P2.2, P2.3
func TestNotModuli(t *testing.T) {
	for _, n := range notModuli {
		for _, a := range ints {
			for _, b := range ints {
				if field.Add(n, a, b) != 0 || field.Sub(n, a, b) != 0 || field.Mul(n, a, b) != 0 || field.Pow(n, a, b) != 0 {
					t.Error(n, a, b)
				}
			}
			if x, ok := field.Inv(n, a); x != 0 || ok {
				t.Error("Inv", n, a, x, ok)
			}
		}
	}
}

// P2.3
func TestSmallInverses(t *testing.T) {
	for n := 1; n < 70; n++ {
		for a := -2 * n; a <= 2*n; a++ {
			want, is := 0, false
			for x := range n {
				if (a*x-1)%n == 0 {
					want, is = x, true
				}
			}
			if x, ok := field.Inv(n, a); x != want || ok != is {
				t.Error(n, a, x, ok)
			}
		}
	}
}

// P2.3
func TestGreatInverses(t *testing.T) {
	r := random()
	for _, n := range moduli {
		for range 200 {
			a := int(r.Uint64())
			want := new(big.Int).ModInverse(big.NewInt(int64(a)), big.NewInt(int64(n)))
			x, ok := field.Inv(n, a)
			if ok != (want != nil) || ok && x != int(want.Int64()) || !ok && x != 0 {
				t.Error(n, a, x, ok)
			}
		}
	}
}

// P2.12
func TestRing(t *testing.T) {
	for n := 1; n <= 13; n++ {
		for a := range n {
			if field.Add(n, a, 0) != a || field.Mul(n, a, 1) != a || field.Add(n, a, field.Sub(n, 0, a)) != 0 {
				t.Error("neutral and opposite", n, a)
			}
			for b := range n {
				checkPair(t, n, a, b)
				for c := range n {
					checkTriple(t, n, a, b, c)
				}
			}
		}
	}
	r := random()
	for range 3000 {
		n := 1 + r.IntN(greatest)
		a, b, c := int(r.Uint64()), int(r.Uint64()), int(r.Uint64())
		checkPair(t, n, a, b)
		checkTriple(t, n, a, b, c)
	}
}

func checkPair(t *testing.T, n, a, b int) {
	t.Helper()
	sum, product := field.Add(n, a, b), field.Mul(n, a, b)
	if sum < 0 || sum >= n || product < 0 || product >= n {
		t.Error("not a residue", n, a, b)
	}
	if sum != field.Add(n, b, a) || product != field.Mul(n, b, a) {
		t.Error("commutative", n, a, b)
	}
	if field.Sub(n, sum, b) != field.Add(n, a, 0) {
		t.Error("difference", n, a, b)
	}
}

func checkTriple(t *testing.T, n, a, b, c int) {
	t.Helper()
	if field.Add(n, field.Add(n, a, b), c) != field.Add(n, a, field.Add(n, b, c)) {
		t.Error("sums", n, a, b, c)
	}
	if field.Mul(n, field.Mul(n, a, b), c) != field.Mul(n, a, field.Mul(n, b, c)) {
		t.Error("products", n, a, b, c)
	}
	if field.Mul(n, a, field.Add(n, b, c)) != field.Add(n, field.Mul(n, a, b), field.Mul(n, a, c)) {
		t.Error("distributive", n, a, b, c)
	}
}

// P2.12
func TestField(t *testing.T) {
	r := random()
	for _, q := range []int{2, 3, 5, 97, 1009, 1<<31 - 1, greatest} {
		for range 300 {
			a := int(r.Uint64())
			if field.Add(q, a, 0) == 0 {
				continue
			}
			if field.Pow(q, a, q-1) != 1 {
				t.Error("Fermat", q, a)
			}
			if x, ok := field.Inv(q, a); !ok || field.Mul(q, a, x) != 1 {
				t.Error("inverse", q, a)
			}
		}
	}
}

// P2.13
func TestExponents(t *testing.T) {
	for n := 1; n <= 24; n++ {
		for a := -3; a < n+3; a++ {
			_, invertible := field.Inv(n, a)
			for i := -12; i <= 12; i++ {
				for j := -12; j <= 12; j++ {
					if !invertible && (i < 0 || j < 0) {
						continue
					}
					if field.Pow(n, a, i+j) != field.Mul(n, field.Pow(n, a, i), field.Pow(n, a, j)) {
						t.Error("sum", n, a, i, j)
					}
					if field.Pow(n, a, i*j) != field.Pow(n, field.Pow(n, a, i), j) {
						t.Error("product", n, a, i, j)
					}
				}
			}
		}
	}
	r := random()
	for range 300 {
		a, i, j := int(r.Uint64()), r.IntN(1<<31), r.IntN(1<<31)-1<<30
		if field.Pow(greatest, a, i+j) != field.Mul(greatest, field.Pow(greatest, a, i), field.Pow(greatest, a, j)) {
			t.Error("great sum", a, i, j)
		}
		if field.Pow(greatest, a, i*j) != field.Pow(greatest, field.Pow(greatest, a, i), j) {
			t.Error("great product", a, i, j)
		}
	}
}
