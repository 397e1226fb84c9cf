package show

import (
	"slices"

	"cloak/api"
	"cloak/field"
)

// group has the operations of a valid setup. They do not test again whether the setup is valid, which takes much longer than most of them.
type group struct{ api.Setup }

// exponents reports whether each of l is from 0 to Q - 1.
func (g group) exponents(l ...int) bool {
	return !slices.ContainsFunc(l, func(x int) bool { return x < 0 || x >= g.Group.Q })
}

// factors reports whether each of l is from 1 to Q - 1.
func (g group) factors(l ...int) bool { return g.exponents(l...) && !slices.Contains(l, 0) }

// elements reports whether each of l is an element.
func (g group) elements(l ...int) bool {
	return !slices.ContainsFunc(l, func(x int) bool {
		return x < 1 || x >= g.Group.P || field.Pow(g.Group.P, x, g.Group.Q) != 1
	})
}

// proper reports whether each of l is an element other than 1.
func (g group) proper(l ...int) bool { return g.elements(l...) && !slices.Contains(l, 1) }

func (g group) power(x, k int) int { return field.Power(g.Group, x, k) }

func (g group) times(a, b int) int { return field.Times(g.Group, a, b) }

func (g group) over(a, b int) int { return field.Over(g.Group, a, b) }

// commit returns the commitment to v with the blind r.
func (g group) commit(v, r int) int {
	return g.times(g.power(g.Group.G, v), g.power(g.Blind, r))
}

// commits returns the commitments to values with as many blinds.
func (g group) commits(values, blinds []int) []int {
	l := make([]int, len(values))
	for i, v := range values {
		l[i] = g.commit(v, blinds[i])
	}
	return l
}

// sub returns a - b modulo Q.
func (g group) sub(a, b int) int { return field.Sub(g.Group.Q, a, b) }

// mul returns a * b modulo Q.
func (g group) mul(a, b int) int { return field.Mul(g.Group.Q, a, b) }

// invert returns the inverse of a number other than 0 modulo Q.
func (g group) invert(x int) int { return field.Pow(g.Group.Q, x, -1) }

// different reports whether the elements of a list are pairwise different.
func different[T comparable](l []T) bool {
	seen := map[T]bool{}
	for _, x := range l {
		if seen[x] {
			return false
		}
		seen[x] = true
	}
	return true
}

// each returns what a function returns for the elements of a list.
func each[S, T any](l []S, one func(S) T) []T {
	r := make([]T, len(l))
	for i, x := range l {
		r[i] = one(x)
	}
	return r
}
