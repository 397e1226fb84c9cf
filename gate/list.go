package gate

import (
	"slices"

	"cloak/api"
	"cloak/field"
)

// isTime reports whether n is a time. Windows have the same range.
func isTime(n int) bool { return n >= 0 && n <= api.MaxTime }

// isGate reports whether n is the number of a gate.
func isGate(n int) bool { return n >= 0 && n < api.MaxGates }

// isDare reports whether n is from 1 to Q - 1, as challenges, secrets and numbers of holders are.
func isDare(s api.Setup, n int) bool { return n >= 1 && n < s.Group.Q }

// isProper reports whether x is an element other than 1 of a valid setup. Unlike field.Element, it does not test again whether the group is valid, which takes much longer.
func isProper(s api.Setup, x int) bool {
	return x > 1 && x < s.Group.P && field.Pow(s.Group.P, x, s.Group.Q) == 1
}

// every reports whether each element of a list is as it should be.
func every(l []int, right func(n int) bool) bool {
	return !slices.ContainsFunc(l, func(n int) bool { return !right(n) })
}

// different reports whether the elements of a list are pairwise different.
func different(l []int) bool {
	l = slices.Clone(l)
	slices.Sort(l)
	return len(slices.Compact(l)) == len(l)
}

// overlap reports whether two lists have an element in common.
func overlap(a, b []int) bool {
	return slices.ContainsFunc(a, func(n int) bool { return slices.Contains(b, n) })
}

// filter returns the elements of a list that are to be kept.
func filter[T any](l []T, keep func(T) bool) []T {
	var r []T
	for _, x := range l {
		if keep(x) {
			r = append(r, x)
		}
	}
	return r
}

// each returns what a function returns for the elements of a list.
func each[S, T any](l []S, one func(S) T) []T {
	r := make([]T, len(l))
	for i, x := range l {
		r[i] = one(x)
	}
	return r
}
