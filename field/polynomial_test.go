package field_test

import (
	"math"
	"slices"
	"testing"

	"cloak/api"
	"cloak/field"
)

// upTo returns the numbers from 0 to n - 1.
func upTo(n int) []int {
	l := make([]int, n)
	for i := range l {
		l[i] = i
	}
	return l
}

// values returns the values of a polynomial at points.
func values(q int, p, xs []int) []int {
	ys := make([]int, len(xs))
	for i, x := range xs {
		ys[i] = field.At(q, p, x)
	}
	return ys
}

// P2.10
func TestAt(t *testing.T) {
	for i, c := range []struct{ got, want int }{
		{field.At(7, []int{1, 2, 3}, 2), 3},
		{field.At(7, []int{-1, 0, 1}, -2), 3},
		{field.At(12, []int{5, 7}, 11), 10},
		{field.At(7, []int{5}, 0), 5},
		{field.At(7, []int{12, 3}, 0), 5},
		{field.At(7, nil, 2), 0},
		{field.At(1, []int{1, 2}, 3), 0},
		{field.At(greatest, []int{math.MaxInt, math.MinInt}, 1), greatest - 1},
	} {
		if c.got != c.want {
			t.Error(i, c.got, c.want)
		}
	}
	for _, n := range notModuli {
		if v := field.At(n, []int{1, 2}, 3); v != 0 {
			t.Error(n, v)
		}
	}
	r := random()
	for _, n := range moduli {
		for size := range 100 {
			p, x, want := make([]int, size), int(r.Uint64()), 0
			for i := range p {
				p[i] = int(r.Uint64())
				want = field.Add(n, want, field.Mul(n, p[i], field.Pow(n, x, i)))
			}
			if got := field.At(n, p, x); got != want {
				t.Error(n, p, x, got, want)
			}
		}
	}
}

// P2.10
func TestThrough(t *testing.T) {
	for i, c := range []struct {
		q            int
		xs, ys, want []int
	}{
		{11, []int{1, 2}, []int{3, 5}, []int{1, 2}},
		{7, []int{0, 1, 2}, []int{1, 0, 3}, []int{1, 4, 2}},
		{7, []int{-5, 8}, []int{12, -4}, []int{1, 2}},
		{7, []int{3}, []int{-3}, []int{4}},
		{2, []int{1, 0}, []int{0, 1}, []int{1, 1}},
		{101, upTo(api.MaxDegree), upTo(api.MaxDegree), append([]int{0, 1}, make([]int, 62)...)},
		{7, nil, nil, nil},
		{7, []int{}, nil, nil},
	} {
		if p, ok := field.Through(c.q, c.xs, c.ys); !slices.Equal(p, c.want) || !ok {
			t.Error(i, p, ok)
		}
	}
}

// P2.10
func TestNotPoints(t *testing.T) {
	for i, c := range []struct {
		q      int
		xs, ys []int
	}{
		{7, []int{1, 8}, []int{0, 0}},
		{7, []int{2, 3, -5}, []int{1, 1, 1}},
		{7, []int{0, 0}, []int{1, 1}},
		{2, []int{0, 1, 2}, []int{0, 0, 0}},
		{101, upTo(api.MaxDegree + 1), upTo(api.MaxDegree + 1)},
	} {
		if p, ok := field.Through(c.q, c.xs, c.ys); len(p) != 0 || ok {
			t.Error(i, p, ok)
		}
		if w, ok := field.Weights(c.q, c.xs, 5); len(w) != 0 || ok {
			t.Error(i, w, ok)
		}
	}
	for _, c := range [][2][]int{{{1}, nil}, {nil, {1}}, {{1, 2}, {1}}, {{1}, {1, 2}}} {
		if p, ok := field.Through(7, c[0], c[1]); len(p) != 0 || ok {
			t.Error(c, p, ok)
		}
	}
	for _, q := range notPrimes {
		for _, xs := range [][]int{{1}, {0, 1}, nil} {
			if p, ok := field.Through(q, xs, xs); len(p) != 0 || ok {
				t.Error(q, p, ok)
			}
			if w, ok := field.Weights(q, xs, 0); len(w) != 0 || ok {
				t.Error(q, w, ok)
			}
		}
	}
}

// P2.10
func TestWeights(t *testing.T) {
	for i, c := range []struct {
		q    int
		xs   []int
		x    int
		want []int
	}{
		{11, []int{1, 2}, 0, []int{2, 10}},
		{7, []int{1, 2, 3}, 0, []int{3, 4, 1}},
		{7, []int{1, 2, 3}, 9, []int{0, 1, 0}},
		{7, []int{8, -5, 3}, -7, []int{3, 4, 1}},
		{7, []int{4}, 6, []int{1}},
		{7, nil, 3, nil},
	} {
		if w, ok := field.Weights(c.q, c.xs, c.x); !slices.Equal(w, c.want) || !ok {
			t.Error(i, w, ok)
		}
	}
}

// P2.10: all points at which there are values, and at which they are asked for.
func TestGreatPolynomials(t *testing.T) {
	r := random()
	for _, q := range []int{67, 1009, great.Q, greatest} {
		for _, size := range []int{1, 2, 5, 17, api.MaxDegree} {
			xs := r.Perm(67)[:size]
			ys := make([]int, size)
			for i := range xs {
				if q > 1009 {
					xs[i] += r.IntN(1<<50) * 67
				}
				ys[i] = int(r.Uint64())
			}
			p, ok := field.Through(q, xs, ys)
			if !ok || len(p) != size {
				t.Fatal(q, size, ok)
			}
			for i, y := range values(q, p, xs) {
				if y != field.Add(q, ys[i], 0) || p[i] < 0 || p[i] >= q {
					t.Error("Through", q, size, i)
				}
			}
			for _, x := range []int{0, 1, 70, xs[0], -xs[0], int(r.Uint64())} {
				w, ok := field.Weights(q, xs, x)
				sum := 0
				for i, f := range w {
					sum = field.Add(q, sum, field.Mul(q, f, ys[i]))
				}
				if !ok || len(w) != size || sum != field.At(q, p, x) || slices.Min(w) < 0 || slices.Max(w) >= q {
					t.Error("Weights", q, size, x)
				}
			}
		}
	}
}

// P2.10: Weights are the only residues that fit, for all small points.
func TestOnlyWeights(t *testing.T) {
	const q = 5
	for _, xs := range [][]int{{0}, {3}, {0, 1}, {4, 2}, {1, 2, 3}} {
		for x := range q {
			var fit [][]int
			for w := range vectors(q, len(xs)) {
				if fits(q, w, xs, x) {
					fit = append(fit, w)
				}
			}
			if w, ok := field.Weights(q, xs, x); !ok || len(fit) != 1 || !slices.Equal(w, fit[0]) {
				t.Error(xs, x, w, fit)
			}
		}
	}
}

// fits reports whether w yields the value at x of all polynomials.
func fits(q int, w, xs []int, x int) bool {
	for p := range vectors(q, len(xs)) {
		sum := 0
		for i, y := range values(q, p, xs) {
			sum += w[i] * y
		}
		if sum%q != field.At(q, p, x) {
			return false
		}
	}
	return true
}

// P2.16
func TestInterpolation(t *testing.T) {
	for _, c := range []struct {
		q  int
		xs []int
	}{{2, []int{1, 0}}, {3, []int{0, 2}}, {5, []int{4}}, {5, []int{3, 1}}, {5, []int{2, 0, 4}}, {7, []int{1, 6, 3}}} {
		through := map[string][]int{}
		for p := range vectors(c.q, len(c.xs)) {
			ys := key(values(c.q, p, c.xs))
			if through[ys] != nil {
				t.Error("two polynomials", c, ys)
			}
			through[ys] = p
		}
		for ys := range vectors(c.q, len(c.xs)) {
			if p, ok := field.Through(c.q, c.xs, ys); !ok || !slices.Equal(p, through[key(ys)]) {
				t.Error(c, ys, p, ok)
			}
		}
	}
}

// P2.17
func TestSecretSharing(t *testing.T) {
	const q = 5
	for _, xs := range [][]int{nil, {1}, {4}, {1, 3}, {4, 2}} {
		for ys := range vectors(q, len(xs)) {
			secrets := make([]int, q)
			for p := range vectors(q, len(xs)+1) {
				if slices.Equal(values(q, p, xs), ys) {
					secrets[field.At(q, p, 0)]++
				}
			}
			if !slices.Equal(secrets, []int{1, 1, 1, 1, 1}) {
				t.Error(xs, ys, secrets)
			}
			for s := range q {
				p, ok := field.Through(q, append([]int{0}, xs...), append([]int{s}, ys...))
				if !ok || field.At(q, p, 0) != s || !slices.Equal(values(q, p, xs), ys) {
					t.Error(xs, ys, s)
				}
			}
		}
	}
	// With one more value, the weights yield the secret.
	p, xs := []int{3, 1, 4}, []int{2, 4, 1}
	w, ok := field.Weights(q, xs, 0)
	secret := 0
	for i, y := range values(q, p, xs) {
		secret += w[i] * y
	}
	if !ok || secret%q != 3 {
		t.Error(w, secret)
	}
}
