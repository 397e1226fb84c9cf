package field_test

import (
	"iter"
	"math"
	"slices"
	"testing"

	"cloak/api"
	"cloak/field"
)

// notPrimes are no orders of prime fields.
var notPrimes = append([]int{1, 4, 6, 9, 25, 561, 1 << 32, greatest - 1}, notModuli...)

// vectors yields all vectors of n residues modulo q.
func vectors(q, n int) iter.Seq[[]int] {
	return func(yield func([]int) bool) {
		v := make([]int, n)
		for {
			if !yield(slices.Clone(v)) {
				return
			}
			i := 0
			for i < n && v[i] == q-1 {
				v[i] = 0
				i++
			}
			if i == n {
				return
			}
			v[i]++
		}
	}
}

// matrices yields all matrices of residues modulo q.
func matrices(q, rows, cols int) iter.Seq[[][]int] {
	return func(yield func([][]int) bool) {
		for v := range vectors(q, rows*cols) {
			m := make([][]int, rows)
			for i := range m {
				m[i] = v[i*cols : (i+1)*cols]
			}
			if !yield(m) {
				return
			}
		}
	}
}

// apply returns the residues of the sums of rows[i][j] * x[j].
func apply(q int, rows [][]int, x []int) []int {
	b := make([]int, len(rows))
	for i, row := range rows {
		for j, a := range row {
			b[i] = field.Add(q, b[i], field.Mul(q, a, x[j]))
		}
	}
	return b
}

// freeColumns tells by the definition which columns are free: by all combinations of the columns before them.
func freeColumns(q int, rows [][]int, cols int) []bool {
	free := make([]bool, cols)
	for j := range free {
		column := make([]int, len(rows))
		before := make([][]int, len(rows))
		for i, row := range rows {
			column[i], before[i] = row[j], row[:j]
		}
		for v := range vectors(q, j) {
			if slices.Equal(apply(q, before, v), column) {
				free[j] = true
			}
		}
	}
	return free
}

func count(l []bool) int {
	n := 0
	for _, v := range l {
		if v {
			n++
		}
	}
	return n
}

func transpose(rows [][]int, cols int) [][]int {
	m := make([][]int, cols)
	for j := range m {
		for _, row := range rows {
			m[j] = append(m[j], row[j])
		}
	}
	return m
}

func equalMatrices(a, b [][]int) bool { return slices.EqualFunc(a, b, slices.Equal) }

func randomMatrix(q, rows, cols int) [][]int {
	r := random()
	m := make([][]int, rows)
	for i := range m {
		for range cols {
			m[i] = append(m[i], r.IntN(q))
		}
	}
	return m
}

// P2.8, P2.9
func TestLinearExamples(t *testing.T) {
	for i, c := range []struct {
		q      int
		rows   [][]int
		b      []int
		want   []int
		ok     bool
		rank   int
		kernel [][]int
	}{
		{11, [][]int{{1, 2, 3}, {2, 4, 6}}, []int{5, 10}, []int{5, 0, 0}, true, 1, [][]int{{9, 1, 0}, {8, 0, 1}}},
		{11, [][]int{{1, 2, 3}, {2, 4, 6}}, []int{5, 9}, nil, false, 1, [][]int{{9, 1, 0}, {8, 0, 1}}},
		{11, [][]int{{0, 0}}, []int{11}, []int{0, 0}, true, 0, [][]int{{1, 0}, {0, 1}}},
		{7, [][]int{{0, 1, 1}, {0, 2, 2}, {0, 0, 3}}, []int{4, 1, 6}, []int{0, 2, 2}, true, 2, [][]int{{1, 0, 0}}},
		{7, [][]int{{0, 2}, {3, 0}}, []int{1, 1}, []int{5, 4}, true, 2, nil},
		{2, [][]int{{3, -1, 2}}, []int{math.MinInt + 1}, []int{1, 0, 0}, true, 1, [][]int{{1, 1, 0}, {0, 0, 1}}},
		{7, [][]int{{math.MinInt, math.MaxInt}}, []int{math.MinInt}, []int{1, 0}, true, 1, [][]int{{0, 1}}},
		{5, [][]int{{}, {}}, []int{0, 5}, nil, true, 0, nil},
		{5, [][]int{{}, {}}, []int{0, 6}, nil, false, 0, nil},
		{5, [][]int{nil, {}}, []int{10, 0}, nil, true, 0, nil},
	} {
		if x, ok := field.Solve(c.q, c.rows, c.b); !slices.Equal(x, c.want) || ok != c.ok {
			t.Error("Solve", i, x, ok)
		}
		if r := field.Rank(c.q, c.rows); r != c.rank {
			t.Error("Rank", i, r)
		}
		if k, ok := field.Kernel(c.q, c.rows, len(c.rows[0])); !equalMatrices(k, c.kernel) || !ok {
			t.Error("Kernel", i, k, ok)
		}
	}
}

// P2.8, P2.9: a matrix without rows.
func TestNoRows(t *testing.T) {
	for _, rows := range [][][]int{nil, {}} {
		if x, ok := field.Solve(7, rows, nil); len(x) != 0 || !ok {
			t.Error(x, ok)
		}
		if x, ok := field.Solve(7, rows, []int{0}); len(x) != 0 || ok {
			t.Error(x, ok)
		}
		if r := field.Rank(7, rows); r != 0 {
			t.Error(r)
		}
		for _, cols := range []int{0, 1, 3, api.MaxRows} {
			k, ok := field.Kernel(7, rows, cols)
			if !ok || len(k) != cols {
				t.Error(cols, len(k), ok)
			}
			for j, v := range k {
				want := make([]int, cols)
				want[j] = 1
				if !slices.Equal(v, want) {
					t.Error(cols, j, v)
				}
			}
		}
		if k, ok := field.Kernel(8, rows, 2); len(k) != 0 || ok {
			t.Error(k, ok)
		}
	}
}

// P2.8, P2.9
func TestInvalidSystems(t *testing.T) {
	good := [][]int{{1, 2}, {3, 4}}
	check := func(q int, rows [][]int, b []int, cols int) {
		t.Helper()
		if x, ok := field.Solve(q, rows, b); len(x) != 0 || ok {
			t.Error("Solve", q, len(rows), x, ok)
		}
		if k, ok := field.Kernel(q, rows, cols); len(k) != 0 || ok {
			t.Error("Kernel", q, len(rows), k, ok)
		}
		if r := field.Rank(q, rows); r != api.None {
			t.Error("Rank", q, len(rows), r)
		}
	}
	for _, q := range notPrimes {
		check(q, good, []int{0, 0}, 2)
		check(q, nil, nil, 0)
	}
	for _, rows := range [][][]int{{{1, 2}, {3}}, {{1}, {2, 3}}, {{}, {1}}, {{1}, nil}, {{1, 2}, {3, 4}, {}}} {
		for cols := range 4 {
			check(7, rows, make([]int, len(rows)), cols)
		}
	}
	check(7, [][]int{make([]int, api.MaxRows+1)}, []int{0}, api.MaxRows+1)
	check(7, make([][]int, api.MaxRows+1), make([]int, api.MaxRows+1), 0)
	for _, b := range [][]int{nil, {0}, {0, 0, 0}} {
		if x, ok := field.Solve(7, good, b); len(x) != 0 || ok {
			t.Error(b, x, ok)
		}
	}
	for _, cols := range []int{math.MinInt, -1, 0, 1, 3, api.MaxRows, api.MaxRows + 1, math.MaxInt} {
		if k, ok := field.Kernel(7, good, cols); len(k) != 0 || ok {
			t.Error(cols, k, ok)
		}
	}
	for _, cols := range []int{math.MinInt, -1, api.MaxRows + 1, math.MaxInt} {
		if k, ok := field.Kernel(7, nil, cols); len(k) != 0 || ok {
			t.Error(cols, k, ok)
		}
	}
}

// P2.8, P2.9: by the definitions, for all small matrices. P2.15
func TestSmallSystems(t *testing.T) {
	for _, c := range []struct{ q, rows, cols int }{{2, 3, 3}, {2, 1, 4}, {2, 4, 2}, {3, 2, 2}, {3, 2, 3}, {3, 1, 3}, {5, 1, 2}, {5, 2, 1}, {5, 2, 2}, {7, 1, 1}} {
		for rows := range matrices(c.q, c.rows, c.cols) {
			checkMatrix(t, c.q, rows, c.cols)
		}
	}
}

func checkMatrix(t *testing.T, q int, rows [][]int, cols int) {
	t.Helper()
	free := freeColumns(q, rows, cols)
	rank := cols - count(free)
	if r := field.Rank(q, rows); r != rank {
		t.Error("Rank", q, rows, r)
	}
	if r := field.Rank(q, transpose(rows, cols)); r != rank {
		t.Error("Rank of the transpose", q, rows, r)
	}
	kernel, ok := field.Kernel(q, rows, cols)
	if want := kernelOf(q, rows, free); !ok || !equalMatrices(kernel, want) {
		t.Error("Kernel", q, rows, kernel, ok)
	}
	solutions := map[string][][]int{}
	for x := range vectors(q, cols) {
		b := key(apply(q, rows, x))
		solutions[b] = append(solutions[b], x)
	}
	for b := range vectors(q, len(rows)) {
		checkSystem(t, q, rows, b, free, kernel, solutions[key(b)])
	}
}

// kernelOf returns what Kernel should return, by the definition.
func kernelOf(q int, rows [][]int, free []bool) [][]int {
	var l [][]int
	for j := range free {
		for v := range vectors(q, len(free)) {
			is := free[j] && slices.Max(append(apply(q, rows, v), 0)) == 0
			for k := range v {
				is = is && (!free[k] || k == j && v[k] == 1 || k != j && v[k] == 0)
			}
			if is {
				l = append(l, v)
			}
		}
	}
	return l
}

// checkSystem checks Solve, given all solutions.
func checkSystem(t *testing.T, q int, rows [][]int, b []int, free []bool, kernel, solutions [][]int) {
	t.Helper()
	var want [][]int
	for _, x := range solutions {
		basic := true
		for j, v := range x {
			basic = basic && (!free[j] || v == 0)
		}
		if basic {
			want = append(want, x)
		}
	}
	x, ok := field.Solve(q, rows, b)
	if ok != (len(solutions) > 0) || ok != (len(want) == 1) || ok && !slices.Equal(x, want[0]) || !ok && len(x) != 0 {
		t.Error("Solve", q, rows, b, x, ok, want)
	}
	if !ok {
		return
	}
	reached := map[string]bool{}
	combinations := 0
	for f := range vectors(q, len(kernel)) {
		y := slices.Clone(x)
		for i, v := range kernel {
			for j := range y {
				y[j] = (y[j] + f[i]*v[j]) % q
			}
		}
		reached[key(y)] = true
		combinations++
	}
	if combinations != len(solutions) || len(reached) != combinations {
		t.Error("number of solutions", q, rows, b)
	}
	for _, y := range solutions {
		if !reached[key(y)] {
			t.Error("solution not reached", q, rows, b, y)
		}
	}
}

// key returns a vector of small residues as a string.
func key(v []int) string {
	s := ""
	for _, a := range v {
		s += string(rune('a' + a))
	}
	return s
}

// P2.8, P2.9: the greatest matrices, and great primes.
func TestGreatSystems(t *testing.T) {
	r := random()
	for _, q := range []int{2, 3, 1009, great.Q, greatest} {
		for _, size := range [][2]int{{api.MaxRows, api.MaxRows}, {api.MaxRows, 40}, {40, api.MaxRows}, {1, api.MaxRows}, {api.MaxRows, 1}} {
			rows := randomMatrix(q, size[0], size[1])
			// The last row depends on the others.
			last := len(rows) - 1
			for j := range rows[last] {
				rows[last][j] = 0
				for i := range last {
					rows[last][j] = field.Add(q, rows[last][j], field.Mul(q, i, rows[i][j]))
				}
			}
			secret := make([]int, size[1])
			for j := range secret {
				secret[j] = r.IntN(q)
			}
			b := apply(q, rows, secret)
			x, ok := field.Solve(q, rows, b)
			if !ok || !slices.Equal(apply(q, rows, x), b) {
				t.Error("Solve", q, size)
			}
			b[last] = field.Add(q, b[last], 1)
			if x, ok := field.Solve(q, rows, b); ok || len(x) != 0 {
				t.Error("Solve without a solution", q, size)
			}
			kernel, ok := field.Kernel(q, rows, size[1])
			if !ok || field.Rank(q, rows)+len(kernel) != size[1] || field.Rank(q, transpose(rows, size[1])) != field.Rank(q, rows) {
				t.Error("Kernel", q, size)
			}
			for _, v := range kernel {
				if !slices.Equal(apply(q, rows, v), make([]int, len(rows))) {
					t.Error("vector of the kernel", q, size)
				}
			}
		}
	}
}

// P2.8, P2.9: each int stands for its residue.
func TestResidues(t *testing.T) {
	r := random()
	for range 300 {
		q := []int{2, 3, 7, 1009, greatest}[r.IntN(5)]
		rows, same := make([][]int, 3), make([][]int, 3)
		b, other := make([]int, 3), make([]int, 3)
		for i := range rows {
			for range 4 {
				a := int(r.Uint64())
				rows[i], same[i] = append(rows[i], a), append(same[i], field.Add(q, a, 0))
			}
			b[i] = int(r.Uint64())
			other[i] = field.Add(q, b[i], 0)
		}
		x, ok := field.Solve(q, rows, b)
		y, is := field.Solve(q, same, other)
		k, _ := field.Kernel(q, rows, 4)
		l, _ := field.Kernel(q, same, 4)
		if !slices.Equal(x, y) || ok != is || !equalMatrices(k, l) || field.Rank(q, rows) != field.Rank(q, same) {
			t.Error(q, rows, b)
		}
	}
}
