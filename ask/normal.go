package ask

import (
	"slices"

	"cloak/api"
)

// Normal returns the normal form of a predicate.
func Normal(p api.Pred) ([]api.Choice, api.Errno) {
	if !ValidPred(p) {
		return nil, api.ErrArg
	}
	if len(variables(p)) > api.MaxAtoms {
		return nil, api.ErrFull
	}
	var list []api.Choice
	for _, conjunct := range conjuncts(p) {
		list = append(list, choices(conjunct)...)
	}
	if len(list) > api.MaxParts {
		return nil, api.ErrFull
	}
	return list, api.OK
}

// variables returns the different atoms of valid predicates that are not constant, in ascending order.
func variables(preds ...api.Pred) []atom {
	return slices.DeleteFunc(atomsOf(preds...), atom.constant)
}

// conjuncts returns the conjuncts of a predicate.
func conjuncts(p api.Pred) []api.Pred {
	if p.Kind != api.PrAll {
		return []api.Pred{p}
	}
	var list []api.Pred
	for _, kid := range p.Kids {
		list = append(list, conjuncts(kid)...)
	}
	return list
}

// choices returns the choices of a conjunct with at most MaxAtoms variables.
func choices(p api.Pred) []api.Choice {
	if isChoice(p) {
		choice := api.Choice{Need: p.C}
		for _, kid := range p.Kids {
			choice.Atoms = append(choice.Atoms, atomOf(kid).pred())
		}
		return []api.Choice{choice}
	}
	var list []api.Choice
	for _, clause := range primeClauses(p) {
		list = append(list, api.Choice{Need: 1, Atoms: predsOf(clause)})
	}
	return list
}

// isChoice reports whether a conjunct is PrLeast of different atoms that are not constant.
func isChoice(p api.Pred) bool {
	if p.Kind != api.PrLeast {
		return false
	}
	for _, kid := range p.Kids {
		if kid.Kind != api.PrAtom {
			return false
		}
	}
	return len(variables(p)) == len(p.Kids)
}

// primeClauses returns the prime clauses of a predicate in their order, each in ascending order.
// Where more atoms are true, no predicate becomes false. So a set is a clause if the predicate is false with all other atoms true, and prime if it stops being one without any of its atoms.
func primeClauses(p api.Pred) [][]atom {
	atoms := variables(p)
	t := independent(atoms).tableOf(p)
	all := 1<<len(atoms) - 1
	isClause := func(set int) bool { return !t[all&^set] }
	var list [][]atom
	for set := range all + 1 {
		prime := isClause(set)
		var clause []atom
		for i, a := range atoms {
			if isTrue(set, i) {
				prime = prime && !isClause(set&^(1<<i))
				clause = append(clause, a)
			}
		}
		if prime {
			list = append(list, clause)
		}
	}
	slices.SortFunc(list, func(a, b []atom) int { return slices.CompareFunc(a, b, atom.compare) })
	return list
}

// independent returns the columns of atoms, of which each may be true or not, whatever the others are.
func independent(atoms []atom) columns {
	c := columns{}
	for i, a := range atoms {
		c[a] = column(i)
	}
	return c
}
