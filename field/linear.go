package field

import (
	"slices"

	"cloak/api"
)

// width returns the number of columns of a matrix (0, if it has no rows), and reports whether rows is a matrix.
func width(rows [][]int) (int, bool) {
	if len(rows) == 0 {
		return 0, true
	}
	cols := len(rows[0])
	if len(rows) > api.MaxRows || cols > api.MaxRows {
		return 0, false
	}
	for _, row := range rows {
		if len(row) != cols {
			return 0, false
		}
	}
	return cols, true
}

// residues returns a new matrix with the residues of rows.
func residues(q int, rows [][]int) [][]int {
	m := make([][]int, len(rows))
	for i, row := range rows {
		m[i] = make([]int, len(row))
		for j, a := range row {
			m[i][j] = residue(q, a)
		}
	}
	return m
}

// reduce brings a matrix of residues with cols columns into reduced row echelon form, and returns its pivot columns in ascending order.
// Then row i has 1 at the column pivots[i], and 0 before it; all other rows have 0 there.
func reduce(q int, m [][]int, cols int) []int {
	var pivots []int
	for j := range cols {
		rank := len(pivots)
		i := slices.IndexFunc(m[rank:], func(row []int) bool { return row[j] != 0 })
		if i < 0 {
			continue
		}
		m[rank], m[rank+i] = m[rank+i], m[rank]
		scale(q, m[rank], Pow(q, m[rank][j], -1))
		for k, row := range m {
			if k != rank {
				subtract(q, row, m[rank], row[j])
			}
		}
		pivots = append(pivots, j)
	}
	return pivots
}

// scale multiplies a row of residues by the residue f.
func scale(q int, row []int, f int) {
	for j, a := range row {
		row[j] = multiply(q, a, f)
	}
}

// subtract subtracts from a row of residues the product of another one and the residue f.
func subtract(q int, row, other []int, f int) {
	if f == 0 {
		return
	}
	for j, a := range other {
		row[j] = residue(q, row[j]-multiply(q, a, f))
	}
}

// Solve returns the basic solution of a system of linear equations modulo q.
func Solve(q int, rows [][]int, b []int) ([]int, bool) {
	cols, ok := width(rows)
	if !ok || len(b) != len(rows) || !Prime(q) {
		return nil, false
	}
	m := residues(q, rows)
	for i, a := range b {
		m[i] = append(m[i], residue(q, a))
	}
	pivots := reduce(q, m, cols+1)
	if slices.Contains(pivots, cols) {
		return nil, false
	}
	x := make([]int, cols)
	for i, j := range pivots {
		x[j] = m[i][cols]
	}
	return x, true
}

// Kernel returns the basis of the kernel of a matrix modulo q.
func Kernel(q int, rows [][]int, cols int) ([][]int, bool) {
	w, ok := width(rows)
	if !ok || len(rows) > 0 && w != cols || cols < 0 || cols > api.MaxRows || !Prime(q) {
		return nil, false
	}
	m := residues(q, rows)
	pivots := reduce(q, m, cols)
	var basis [][]int
	for j := range cols {
		if slices.Contains(pivots, j) {
			continue
		}
		v := make([]int, cols)
		v[j] = 1
		for i, p := range pivots {
			v[p] = residue(q, -m[i][j])
		}
		basis = append(basis, v)
	}
	return basis, true
}

// Rank returns the rank of a matrix modulo q.
func Rank(q int, rows [][]int) int {
	cols, ok := width(rows)
	if !ok || !Prime(q) {
		return api.None
	}
	return len(reduce(q, residues(q, rows), cols))
}
