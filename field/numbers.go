// Package field implements arithmetic modulo n, SHA-256, groups of prime order, linear algebra and polynomials (chapter 2): see shared/doc/02-field.md.
package field

import (
	"math/bits"

	"cloak/api"
)

// witnesses are the bases of the Miller-Rabin test. No composite number less than MaxModulus passes it for all of them.
var witnesses = [...]int{2, 3, 5, 7, 11, 13, 17, 19, 23, 29, 31, 37}

// isModulus reports whether n is a modulus.
func isModulus(n int) bool { return n >= 1 && n < api.MaxModulus }

// residue returns the residue of a modulo the modulus n.
func residue(n, a int) int {
	r := a % n
	if r < 0 {
		r += n
	}
	return r
}

// multiply returns the residue of a * b, for residues a and b modulo n.
func multiply(n, a, b int) int {
	high, low := bits.Mul64(uint64(a), uint64(b))
	// The division cannot panic: high is less than n, since a is less than n, and b is less than 2^64.
	_, r := bits.Div64(high, low, uint64(n))
	return int(r)
}

// raise returns the residue of a^e, for a residue a modulo n.
func raise(n, a int, e uint64) int {
	r := 1 % n
	for ; e > 0; e >>= 1 {
		if e&1 == 1 {
			r = multiply(n, r, a)
		}
		a = multiply(n, a, a)
	}
	return r
}

// Prime reports whether n is a prime less than MaxModulus.
func Prime(n int) bool {
	if n < 2 || n >= api.MaxModulus {
		return false
	}
	for _, p := range witnesses {
		if n%p == 0 {
			return n == p
		}
	}
	// From here on, n has no prime factor up to 37, so the witnesses are residues modulo n.
	for _, a := range witnesses {
		if !passes(n, a) {
			return false
		}
	}
	return true
}

// passes reports whether the odd number n is accepted by the Miller-Rabin test for the base a, which is less than n.
func passes(n, a int) bool {
	twos := bits.TrailingZeros64(uint64(n - 1))
	x := raise(n, a, uint64(n-1)>>twos)
	if x == 1 {
		return true
	}
	for range twos {
		if x == n-1 {
			return true
		}
		x = multiply(n, x, x)
	}
	return false
}

// Add returns a + b modulo n.
func Add(n, a, b int) int {
	if !isModulus(n) {
		return 0
	}
	return residue(n, residue(n, a)+residue(n, b))
}

// Sub returns a - b modulo n.
func Sub(n, a, b int) int {
	if !isModulus(n) {
		return 0
	}
	return residue(n, residue(n, a)-residue(n, b))
}

// Mul returns a * b modulo n.
func Mul(n, a, b int) int {
	if !isModulus(n) {
		return 0
	}
	return multiply(n, residue(n, a), residue(n, b))
}

// Pow returns a to the power of b modulo n.
func Pow(n, a, b int) int {
	if !isModulus(n) {
		return 0
	}
	if b >= 0 {
		return raise(n, residue(n, a), uint64(b))
	}
	x, ok := Inv(n, a)
	if !ok {
		return 0
	}
	// Unlike an int, an uint64 has room for the opposite of the least int.
	return raise(n, x, -uint64(b))
}

// Inv returns the inverse of a modulo n.
func Inv(n, a int) (int, bool) {
	if !isModulus(n) {
		return 0, false
	}
	// Euclid's algorithm, in which r - x * a and next - y * a always are multiples of n.
	r, next := n, residue(n, a)
	x, y := 0, 1
	for next != 0 {
		k := r / next
		r, next = next, r-k*next
		x, y = y, x-k*y
	}
	if r != 1 {
		return 0, false
	}
	return residue(n, x), true
}
