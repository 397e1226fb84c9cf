package proof

import (
	"iter"
	"slices"

	"cloak/api"
	"cloak/base"
	"cloak/field"
)

// place is where a claim stands in a goal: the index of its clause, and its own index there.
type place struct{ clause, claim int }

// claims visits the claims of a goal.
func claims(goal []api.Clause) iter.Seq2[place, api.Claim] {
	return func(yield func(place, api.Claim) bool) {
		for i, clause := range goal {
			for k, claim := range clause.Claims {
				if !yield(place{i, k}, claim) {
					return
				}
			}
		}
	}
}

// eachClaim returns what a function returns for the claims of a goal, clause by clause.
func eachClaim[T any](goal []api.Clause, one func(place, api.Claim) T) [][]T {
	l := make([][]T, len(goal))
	for at, claim := range claims(goal) {
		l[at.clause] = append(l[at.clause], one(at, claim))
	}
	return l
}

// pick returns what l has for the claim at a place.
func pick[T any](l [][]T, at place) T { return l[at.clause][at.claim] }

// covers reports whether l has one element for each claim of a goal, and no others.
func covers[T any](goal []api.Clause, l [][]T) bool {
	return slices.EqualFunc(goal, l, func(clause api.Clause, row []T) bool { return len(clause.Claims) == len(row) })
}

// ValidGoal reports whether a goal is valid.
func ValidGoal(s api.Setup, goal []api.Clause) bool {
	if !ValidSetup(s) || len(goal) < 1 || len(goal) > api.MaxClauses {
		return false
	}
	for _, clause := range goal {
		n := len(clause.Claims)
		if n > api.MaxClaims || n >= s.Group.Q || clause.Need < 1 || clause.Need > n {
			return false
		}
	}
	inGroup := elements(s.Group)
	for _, claim := range claims(goal) {
		if !validClaim(claim, inGroup) {
			return false
		}
	}
	return true
}

// validClaim reports whether a claim is valid for a valid setup, where inGroup tells which numbers are elements.
func validClaim(claim api.Claim, inGroup func(x int) bool) bool {
	if claim.Vars < 0 || claim.Vars > api.MaxVars || len(claim.Eqs) < 1 || len(claim.Eqs) > api.MaxEqs {
		return false
	}
	for _, eq := range claim.Eqs {
		if len(eq.Terms) > api.MaxTerms || !inGroup(eq.Target) {
			return false
		}
		for _, t := range eq.Terms {
			if t.Var < 0 || t.Var >= claim.Vars || !inGroup(t.Base) {
				return false
			}
		}
	}
	return true
}

// fits reports whether values fit a claim.
func fits(q int, claim api.Claim, values []int) bool {
	return len(values) == claim.Vars && !slices.ContainsFunc(values, func(v int) bool { return !isExponent(q, v) })
}

// Holds reports whether a claim holds for values.
func Holds(s api.Setup, claim api.Claim, values []int) bool {
	return ValidSetup(s) && validClaim(claim, elements(s.Group)) && fits(s.Group.Q, claim, values) && holds(s.Group, claim, values)
}

// holds reports whether a valid claim holds for values that fit it.
func holds(g api.Group, claim api.Claim, values []int) bool {
	for _, eq := range claim.Eqs {
		if product(g, eq, values) != eq.Target {
			return false
		}
	}
	return true
}

// commitments returns the commitments of a valid claim for a challenge and answers that fit it.
func commitments(g api.Group, claim api.Claim, dare int, answers []int) []int {
	l := make([]int, len(claim.Eqs))
	for i, eq := range claim.Eqs {
		l[i] = field.Over(g, product(g, eq, answers), field.Power(g, eq.Target, dare))
	}
	return l
}

// product returns the product of the terms of an equation.
func product(g api.Group, eq api.Eq, values []int) int {
	r := 1
	for _, t := range eq.Terms {
		r = field.Times(g, r, field.Power(g, t.Base, values[t.Var]))
	}
	return r
}

// Text returns the encoding of a goal.
func Text(goal []api.Clause) string {
	l := []int{len(goal)}
	for i, clause := range goal {
		l = append(l, clause.Need, len(clause.Claims))
		for _, claim := range claims(goal[i : i+1]) {
			l = append(l, claim.Vars, len(claim.Eqs))
			for _, eq := range claim.Eqs {
				l = append(l, eq.Target, len(eq.Terms))
				for _, t := range eq.Terms {
					l = append(l, t.Var, t.Base)
				}
			}
		}
	}
	return base.Nums(l)
}
