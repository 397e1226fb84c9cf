package ask

import (
	"slices"

	"cloak/api"
)

// need returns how many of its Kids must be true for a node to be true.
func need(p api.Pred) int {
	switch p.Kind {
	case api.PrAll:
		return len(p.Kids)
	case api.PrSome:
		return 1
	}
	return p.C
}

// Holds reports whether a predicate is true for binds.
func Holds(p api.Pred, binds []api.Bind) (bool, api.Errno) {
	values, ok := valuesOf(binds)
	if !ok || !ValidPred(p) {
		return false, api.ErrArg
	}
	if slices.ContainsFunc(atomsOf(p), lacks(values)) {
		return false, api.ErrNone
	}
	return truth(p, values), api.OK
}

// lacks returns a function that reports whether a name of an atom has no value.
func lacks(values map[string]int) func(a atom) bool {
	return func(a atom) bool {
		_, left := values[a.left]
		_, right := values[a.right]
		return !left || !right
	}
}

// truth returns the truth of a valid predicate all of whose names have values.
func truth(p api.Pred, values map[string]int) bool {
	if p.Kind == api.PrAtom {
		return atomOf(p).holds(values)
	}
	count := 0
	for _, kid := range p.Kids {
		if truth(kid, values) {
			count++
		}
	}
	return count >= need(p)
}

// Meets reports whether choices are met by binds.
func Meets(l []api.Choice, binds []api.Bind) (bool, api.Errno) {
	values, ok := valuesOf(binds)
	if !ok {
		return false, api.ErrArg
	}
	lacking := lacks(values)
	met, complete := true, true
	for _, choice := range l {
		count := 0
		for _, p := range choice.Atoms {
			if !isAtom(p) {
				return false, api.ErrArg
			}
			if lacking(atomOf(p)) {
				complete = false
			} else if atomOf(p).holds(values) {
				count++
			}
		}
		met = met && count >= choice.Need
	}
	if !complete {
		return false, api.ErrNone
	}
	return met, api.OK
}

// isAtom reports whether a node is a valid atom.
func isAtom(p api.Pred) bool { return p.Kind == api.PrAtom && validNode(p) }
