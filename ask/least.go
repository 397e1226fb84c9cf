package ask

import (
	"maps"
	"slices"

	"cloak/api"
)

// Least returns the least assignment for which all atoms are true.
func Least(atoms []api.Pred, names []string, most int) ([]api.Bind, bool) {
	list, ok := constraintsOf(atoms, names, most)
	if !ok {
		return nil, false
	}
	values, cycle := solve(list, names)
	if len(cycle) > 0 {
		return nil, false
	}
	return bind(names, values), true
}

// Cycle returns a contradiction among atoms.
func Cycle(atoms []api.Pred, names []string, most int) ([]int, bool) {
	list, ok := constraintsOf(atoms, names, most)
	if !ok {
		return nil, false
	}
	_, cycle := solve(list, names)
	return cycle, len(cycle) > 0
}

// Contradicts reports whether a list is a contradiction among atoms.
func Contradicts(atoms []api.Pred, names []string, most int, list []int) bool {
	constraints, ok := constraintsOf(atoms, names, most)
	if !ok || len(list) == 0 {
		return false
	}
	// The sum of all C is high * 2^20 + low. It may be too great for a single int.
	high, low := 0, 0
	before := list[len(list)-1]
	for _, i := range list {
		if !isIndex(before, constraints) || !isIndex(i, constraints) || constraints[before].right != constraints[i].left {
			return false
		}
		high += constraints[i].c >> 20
		low += constraints[i].c & (1<<20 - 1)
		before = i
	}
	return high+low>>20 < 0
}

func isIndex(i int, list []atom) bool { return i >= 0 && i < len(list) }

// bind returns values as binds of names.
func bind(names []string, values []int) []api.Bind {
	binds := make([]api.Bind, len(names))
	for i, name := range names {
		binds[i] = api.Bind{Name: name, Value: values[i]}
	}
	return binds
}

// constraintsOf returns the constraints of atoms, names and most, and reports whether these are valid.
func constraintsOf(preds []api.Pred, names []string, most int) ([]atom, bool) {
	if !isScope(names, most) {
		return nil, false
	}
	atoms := make([]atom, len(preds))
	for i, p := range preds {
		atoms[i] = atomOf(p)
		if !isAtom(p) || !atoms[i].among(names) {
			return nil, false
		}
	}
	return constraints(atoms, names, most), true
}

// isScope reports whether names and most are valid for a decision.
func isScope(names []string, most int) bool {
	if len(names) > MaxNames || !inRange(most) {
		return false
	}
	for i, name := range names {
		if !ValidName(name) || i > 0 && names[i-1] >= name {
			return false
		}
	}
	return true
}

// among reports whether the names of an atom are among names.
func (a atom) among(names []string) bool {
	return placeOf(a.left, names) >= 0 && placeOf(a.right, names) >= 0
}

// placeOf returns 0 for the empty name, i + 1 for the name with the index i, and -1 for any other name.
func placeOf(name string, names []string) int {
	if name == "" {
		return 0
	}
	i, ok := slices.BinarySearch(names, name)
	if !ok {
		return -1
	}
	return i + 1
}

// constraints returns the constraints of valid atoms, names and most.
func constraints(atoms []atom, names []string, most int) []atom {
	list := slices.Clone(atoms)
	for _, name := range names {
		list = append(list, atom{"", name, 0}, atom{name, "", most})
	}
	return list
}

// step is a constraint with the places of its names: the value at the place right is at least the value at left minus c.
type step struct{ left, right, c int }

func stepOf(a atom, names []string) step {
	return step{placeOf(a.left, names), placeOf(a.right, names), a.c}
}

// tightest returns the indices of the constraints between each two names that have the smallest C: the others follow from them.
// With so few constraints, no value grows beyond the range of ints before a contradiction is found.
func tightest(list []atom) []int {
	best := map[atom]int{}
	for i, a := range list {
		names := atom{left: a.left, right: a.right}
		if k, ok := best[names]; !ok || a.c < list[k].c {
			best[names] = i
		}
	}
	return slices.Sorted(maps.Values(best))
}

// solve returns the values of the names in the least assignment for which all constraints are true, or if there is none, a contradiction.
// It raises values from 0 on, as far as a constraint asks for it. Without a contradiction that takes less rounds than there are places.
func solve(list []atom, names []string) (values, cycle []int) {
	indices := tightest(list)
	places := len(names) + 1
	values = make([]int, places)
	raisedBy := make([]int, places) // the index of the constraint that raised a value last
	steps := make([]step, len(indices))
	for k, i := range indices {
		steps[k] = stepOf(list[i], names)
	}
	raised := 0
	for range places {
		raised = -1
		for k, s := range steps {
			if v := values[s.left] - s.c; v > values[s.right] {
				values[s.right], raisedBy[s.right] = v, indices[k]
				raised = s.right
			}
		}
		if raised < 0 {
			return values[1:], nil
		}
	}
	return nil, cycleTo(raised, list, names, raisedBy)
}

// cycleTo returns the constraints that raised values again and again, up to a place that was raised in the last round.
func cycleTo(place int, list []atom, names []string, raisedBy []int) []int {
	before := func(place int) int { return placeOf(list[raisedBy[place]].left, names) }
	// What raised the value at the place was raised itself one round before, at most. So after as many steps back as there are places, the place is one of a cycle.
	for range raisedBy {
		place = before(place)
	}
	cycle := []int{raisedBy[place]}
	for p := before(place); p != place; p = before(p) {
		cycle = append(cycle, raisedBy[p])
	}
	slices.Reverse(cycle)
	return cycle
}
