package ask

import "cloak/api"

// tableSize is the number of assignments of truth values to MaxAtoms atoms.
const tableSize = 1 << api.MaxAtoms

// table has the truth of something for each assignment of truth values to at most MaxAtoms atoms, which are numbered: bit i of the index of an assignment is the truth of the atom i.
type table [tableSize]bool

// column returns the table of the atom i.
func column(i int) table {
	var t table
	for n := range t {
		t[n] = isTrue(n, i)
	}
	return t
}

// isTrue reports whether the atom i is true in the assignment with an index.
func isTrue(index, i int) bool { return index>>i&1 == 1 }

// not returns the table of the contrary.
func (t table) not() table {
	for n, b := range t {
		t[n] = !b
	}
	return t
}

// columns are the tables of atoms that are not constant.
type columns map[atom]table

// tableOf returns the table of a valid predicate all of whose atoms have a column or are constant.
func (c columns) tableOf(p api.Pred) table {
	if p.Kind == api.PrAtom {
		return c.tableOfAtom(atomOf(p))
	}
	var counts [tableSize]int
	for _, kid := range p.Kids {
		for n, b := range c.tableOf(kid) {
			if b {
				counts[n]++
			}
		}
	}
	var t table
	for n, count := range counts {
		t[n] = count >= need(p)
	}
	return t
}

func (c columns) tableOfAtom(a atom) table {
	if !a.constant() {
		return c[a]
	}
	var t table
	if a.holds(nil) {
		return t.not()
	}
	return t
}
