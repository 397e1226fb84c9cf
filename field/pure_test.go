package field_test

import (
	"math"
	"slices"
	"testing"

	"cloak/api"
	"cloak/field"
)

// guarded returns a copy of l, and the memory behind it, in which elements beyond the length are marked.
func guarded(l []int) (part, whole []int) {
	whole = append(slices.Clone(l), -77, -78, -79)
	return whole[:len(l)], whole
}

// P2.11, P3: arguments are not modified, also not beyond their length.
func TestArgumentsAreKept(t *testing.T) {
	a, wholeA := guarded([]int{3, -5, 100})
	b, wholeB := guarded([]int{12, 4, -1})
	r, wholeR := guarded([]int{1, 0, 2})
	wholeRows := [][]int{a, b, r, {9, 9, 9}}
	rows := wholeRows[:3]
	field.Solve(11, rows, b)
	field.Kernel(11, rows, 3)
	field.Rank(11, rows)
	field.At(11, a, 5)
	field.Through(11, a, b)
	field.Weights(11, a, 4)
	field.Product(api.Group{P: 23, Q: 11, G: 4}, a, b)
	if !slices.Equal(wholeA, []int{3, -5, 100, -77, -78, -79}) || !slices.Equal(wholeB, []int{12, 4, -1, -77, -78, -79}) || !slices.Equal(wholeR, []int{1, 0, 2, -77, -78, -79}) {
		t.Error(wholeA, wholeB, wholeR)
	}
	if &wholeRows[0][0] != &a[0] || &wholeRows[1][0] != &b[0] || &wholeRows[2][0] != &r[0] || !slices.Equal(wholeRows[3], []int{9, 9, 9}) {
		t.Error(wholeRows)
	}
}

// spoil overwrites a slice up to its capacity.
func spoil(l []int) {
	l = l[:cap(l)]
	for i := range l {
		l[i] = -1000
	}
}

// P2.11, P3: results do not depend on what was done to earlier results, and the vectors of one result are apart.
func TestResultsAreNew(t *testing.T) {
	rows := [][]int{{1, 2, 3}, {2, 4, 6}}
	b, xs, ys := []int{5, 10}, []int{1, 2, 3}, []int{4, 5, 9}
	for range 2 {
		x, _ := field.Solve(11, rows, b)
		if !slices.Equal(x, []int{5, 0, 0}) {
			t.Error("Solve", x)
		}
		spoil(x)
		k, _ := field.Kernel(11, rows, 3)
		if !equalMatrices(k, [][]int{{9, 1, 0}, {8, 0, 1}}) {
			t.Error("Kernel", k)
		}
		spoil(k[0])
		if !slices.Equal(k[1], []int{8, 0, 1}) {
			t.Error("Kernel", k)
		}
		spoil(k[1])
		p, _ := field.Through(11, xs, ys)
		if !slices.Equal(values(11, p, xs), ys) {
			t.Error("Through", p)
		}
		spoil(p)
		w, _ := field.Weights(11, xs, 0)
		if !slices.Equal(w, []int{3, 8, 1}) {
			t.Error("Weights", w)
		}
		spoil(w)
	}
	if !equalMatrices(rows, [][]int{{1, 2, 3}, {2, 4, 6}}) || !slices.Equal(b, []int{5, 10}) || !slices.Equal(xs, []int{1, 2, 3}) || !slices.Equal(ys, []int{4, 5, 9}) {
		t.Error("arguments", rows, b, xs, ys)
	}
}

// P1: no arguments lead to a panic.
func TestAllArguments(t *testing.T) {
	numbers := []int{math.MinInt, -greatest, -2, -1, 0, 1, 2, 3, 4, 7, 11, 64, 65, 1 << 60, greatest, greatest + 1, 1 << 62, math.MaxInt}
	slicesOfInts := [][]int{nil, {}, {0}, {math.MinInt}, {1, math.MaxInt}, {0, 1, 2}, make([]int, 64), make([]int, 65), upTo(64)}
	matricesOfInts := [][][]int{nil, {}, {nil}, {{}, {1}}, {{math.MinInt, math.MaxInt}, {0, 1}}, make([][]int, 65), {make([]int, 65)}}
	for _, n := range numbers {
		for _, s := range []string{"", "abc"} {
			field.Number(s, n)
		}
		for _, a := range numbers {
			for _, b := range numbers {
				g := api.Group{P: n, Q: a, G: b}
				field.ValidGroup(g)
				field.Base(g, "a")
				for _, x := range numbers {
					field.Element(g, x)
					field.Power(g, x, b)
					field.Times(g, x, b)
					field.Over(g, b, x)
				}
				for _, l := range slicesOfInts {
					field.Product(g, l, l)
				}
			}
		}
		for _, l := range slicesOfInts {
			for _, a := range numbers {
				field.At(n, l, a)
				field.Weights(n, l, a)
			}
			for _, m := range slicesOfInts {
				field.Through(n, l, m)
			}
			for _, rows := range matricesOfInts {
				field.Solve(n, rows, l)
			}
		}
		for _, rows := range matricesOfInts {
			field.Rank(n, rows)
			for _, cols := range numbers {
				field.Kernel(n, rows, cols)
			}
		}
	}
}
