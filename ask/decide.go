package ask

import (
	"slices"

	"cloak/api"
)

// space is what a decision concerns: names, the greatest value, and comparisons, each as one of the two atoms that it is, with the columns of both.
type space struct {
	names       []string
	most        int
	comparisons []atom
	columns     columns
}

// cell consists of all assignments for which the comparisons have the same truth: these truth values as the index in tables, and the values of the first one.
type cell struct {
	index  int
	values []int
}

// open returns the space of predicates with these names.
func open(names []string, most int, preds ...api.Pred) (space, api.Errno) {
	s := space{names: names, most: most, columns: columns{}}
	if !isScope(names, most) {
		return space{}, api.ErrArg
	}
	for _, p := range preds {
		if !ValidPred(p) {
			return space{}, api.ErrArg
		}
	}
	for _, a := range atomsOf(preds...) {
		if !a.among(names) {
			return space{}, api.ErrArg
		}
	}
	for _, a := range variables(preds...) {
		if _, known := s.columns[a]; known {
			continue
		}
		if len(s.comparisons) == api.MaxAtoms {
			return space{}, api.ErrFull
		}
		t := column(len(s.comparisons))
		s.columns[a], s.columns[a.negation()] = t, t.not()
		s.comparisons = append(s.comparisons, a)
	}
	return s, api.OK
}

// openAll returns the space of predicates with all their names.
func openAll(most int, preds ...api.Pred) (space, api.Errno) {
	var names []string
	for _, p := range preds {
		names = append(names, Names(p)...)
	}
	slices.Sort(names)
	return open(slices.Compact(names), most, preds...)
}

// cells returns all cells that are not empty, in the order of their first assignments.
// The first assignment of a cell is its least one, as no value can be smaller than there.
func (s space) cells() []cell {
	var list []cell
	for index := range 1 << len(s.comparisons) {
		atoms := make([]atom, len(s.comparisons))
		for i, a := range s.comparisons {
			atoms[i] = a.negation()
			if isTrue(index, i) {
				atoms[i] = a
			}
		}
		if values, cycle := solve(constraints(atoms, s.names, s.most), s.names); len(cycle) == 0 {
			list = append(list, cell{index, values})
		}
	}
	slices.SortFunc(list, func(a, b cell) int { return slices.Compare(a.values, b.values) })
	return list
}

// first returns the first assignment for which a table is true, and reports whether there is one.
func (s space) first(t table) ([]api.Bind, bool) {
	for _, c := range s.cells() {
		if t[c.index] {
			return bind(s.names, c.values), true
		}
	}
	return nil, false
}

// Sat returns the least assignment for which a predicate is true.
func Sat(p api.Pred, names []string, most int) ([]api.Bind, bool, api.Errno) {
	s, e := open(names, most, p)
	if e != api.OK {
		return nil, false, e
	}
	binds, ok := s.first(s.columns.tableOf(p))
	return binds, ok, api.OK
}

// Implies reports whether a predicate implies another one.
func Implies(p, q api.Pred, most int) ([]api.Bind, bool, api.Errno) {
	return never(p, q, most, func(p, q bool) bool { return p && !q })
}

// Same reports whether two predicates are equivalent.
func Same(p, q api.Pred, most int) ([]api.Bind, bool, api.Errno) {
	return never(p, q, most, func(p, q bool) bool { return p != q })
}

// never reports whether the truth values of two predicates are never bad together. Otherwise it returns the first assignment for which they are.
func never(p, q api.Pred, most int, bad func(p, q bool) bool) ([]api.Bind, bool, api.Errno) {
	s, e := openAll(most, p, q)
	if e != api.OK {
		return nil, false, e
	}
	t, other := s.columns.tableOf(p), s.columns.tableOf(q)
	for n := range t {
		t[n] = bad(t[n], other[n])
	}
	binds, found := s.first(t)
	return binds, !found, api.OK
}
