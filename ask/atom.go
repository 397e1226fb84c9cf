package ask

import (
	"cmp"
	"maps"
	"slices"

	"cloak/api"
)

// atom is an atom as a value that can be compared.
type atom struct {
	left, right string
	c           int
}

// atomOf returns the fields of a node that is an atom.
func atomOf(p api.Pred) atom { return atom{p.Left, p.Right, p.C} }

// pred returns an atom as a node.
func (a atom) pred() api.Pred { return api.Pred{Left: a.left, Right: a.right, C: a.c} }

// valid reports whether an atom is valid.
func (a atom) valid() bool {
	return fits(a.c) && (a.left == "" || ValidName(a.left)) && (a.right == "" || ValidName(a.right))
}

// fits reports whether a number can be the C of an atom. If it can, that of the negation can too.
func fits(c int) bool { return c >= -api.MaxNumber && c < api.MaxNumber }

func (a atom) negation() atom { return atom{a.right, a.left, -a.c - 1} }

// constant reports whether an atom has the same truth for all assignments.
func (a atom) constant() bool { return a.left == a.right }

// holds returns the truth of an atom. Names that values does not contain have the value 0.
func (a atom) holds(values map[string]int) bool {
	return values[a.left]-values[a.right] <= a.c
}

// compare returns a negative number, 0 or a positive number, if a is before, equal to or after b.
func (a atom) compare(b atom) int {
	return cmp.Or(cmp.Compare(a.left, b.left), cmp.Compare(a.right, b.right), cmp.Compare(a.c, b.c))
}

// atomsOf returns the different atoms of valid predicates in ascending order.
func atomsOf(preds ...api.Pred) []atom {
	set := map[atom]bool{}
	for _, p := range preds {
		collect(p, set)
	}
	return slices.SortedFunc(maps.Keys(set), atom.compare)
}

// collect puts the atoms of a valid predicate into a set.
func collect(p api.Pred, set map[atom]bool) {
	if p.Kind == api.PrAtom {
		set[atomOf(p)] = true
	}
	for _, kid := range p.Kids {
		collect(kid, set)
	}
}

// predsOf returns atoms as nodes.
func predsOf(atoms []atom) []api.Pred {
	list := make([]api.Pred, len(atoms))
	for i, a := range atoms {
		list[i] = a.pred()
	}
	return list
}

// Names returns the names of a predicate.
func Names(p api.Pred) []string {
	if !ValidPred(p) {
		return nil
	}
	set := map[string]bool{}
	for _, a := range atomsOf(p) {
		set[a.left], set[a.right] = true, true
	}
	delete(set, "")
	return slices.Sorted(maps.Keys(set))
}

// Atoms returns the atoms of a predicate.
func Atoms(p api.Pred) []api.Pred {
	if !ValidPred(p) {
		return nil
	}
	return predsOf(atomsOf(p))
}

// Negate returns the negation of a predicate.
func Negate(p api.Pred) api.Pred {
	if !ValidPred(p) {
		return api.Pred{}
	}
	return negation(p)
}

// negation returns the negation of a predicate, which may have any number of nodes and levels.
func negation(p api.Pred) api.Pred {
	if p.Kind == api.PrAtom {
		return atomOf(p).negation().pred()
	}
	not := api.Pred{Kind: p.Kind, Kids: make([]api.Pred, len(p.Kids))}
	for i, kid := range p.Kids {
		not.Kids[i] = negation(kid)
	}
	switch p.Kind {
	case api.PrAll:
		not.Kind = api.PrSome
	case api.PrSome:
		not.Kind = api.PrAll
	case api.PrLeast:
		not.C = len(p.Kids) - p.C + 1
	}
	return not
}
