package field

import "cloak/api"

// At returns the value of a polynomial modulo q.
func At(q int, coeffs []int, x int) int {
	if !isModulus(q) {
		return 0
	}
	r := 0
	for i := len(coeffs) - 1; i >= 0; i-- {
		r = Add(q, Mul(q, r, x), coeffs[i])
	}
	return r
}

// separate reports whether q is a prime less than MaxModulus, and xs are at most MaxDegree ints with different residues.
func separate(q int, xs []int) bool {
	if len(xs) > api.MaxDegree || !Prime(q) {
		return false
	}
	seen := map[int]bool{}
	for _, x := range xs {
		seen[residue(q, x)] = true
	}
	return len(seen) == len(xs)
}

// Through returns the polynomial through points modulo q.
func Through(q int, xs, ys []int) ([]int, bool) {
	if len(xs) != len(ys) || !separate(q, xs) {
		return nil, false
	}
	// Point by point, p leads through the points so far, and zero is the polynomial with the leading coefficient 1 that is 0 at all of them.
	p := make([]int, len(xs))
	zero := make([]int, len(xs)+1)
	zero[0] = 1
	for n, x := range xs {
		f := Mul(q, Sub(q, ys[n], At(q, p, x)), Pow(q, At(q, zero, x), -1))
		for i := range n + 1 {
			p[i] = Add(q, p[i], Mul(q, f, zero[i]))
		}
		addZero(q, zero[:n+2], x)
	}
	return p, true
}

// addZero multiplies a polynomial, whose last coefficient is 0, by the polynomial that is 0 at x and has the leading coefficient 1.
func addZero(q int, p []int, x int) {
	for i := len(p) - 1; i > 0; i-- {
		p[i] = Sub(q, p[i-1], Mul(q, x, p[i]))
	}
	p[0] = Sub(q, 0, Mul(q, x, p[0]))
}

// Weights returns the coefficients with which values at points yield the value at x.
func Weights(q int, xs []int, x int) ([]int, bool) {
	if !separate(q, xs) {
		return nil, false
	}
	w := make([]int, len(xs))
	for i, a := range xs {
		over, under := 1, 1
		for j, b := range xs {
			if j != i {
				over = Mul(q, over, Sub(q, x, b))
				under = Mul(q, under, Sub(q, a, b))
			}
		}
		w[i] = Mul(q, over, Pow(q, under, -1))
	}
	return w, true
}
