package inquiry

import "slices"

// isIndex reports whether i is the index of one of n elements.
func isIndex(i, n int) bool { return i >= 0 && i < n }

// every reports whether each element of a list is as it should be.
func every[T any](l []T, right func(T) bool) bool {
	return !slices.ContainsFunc(l, func(x T) bool { return !right(x) })
}

// filter returns the elements of a list that are to be kept.
func filter[T any](l []T, keep func(T) bool) []T {
	var r []T
	for _, x := range l {
		if keep(x) {
			r = append(r, x)
		}
	}
	return r
}

// each returns what a function returns for the elements of a list.
func each[S, T any](l []S, one func(S) T) []T {
	r := make([]T, len(l))
	for i, x := range l {
		r[i] = one(x)
	}
	return r
}
