package inquiry

import (
	"cloak/api"
	"cloak/base"
)

// Limits of statutes.
const (
	MaxReasons  = 16
	MaxStatutes = 16
)

// ValidStatute reports whether a statute is valid.
func ValidStatute(x api.Statute) bool {
	return areReasons(x.Reasons) && areWeights(x.Weights) && x.Quorum >= 1 && x.Quorum <= total(x.Weights)
}

// areReasons reports whether a valid statute can have some reasons.
func areReasons(l []string) bool {
	if len(l) < 1 || len(l) > MaxReasons {
		return false
	}
	for i, s := range l {
		if !base.Name(s) || i > 0 && l[i-1] >= s {
			return false
		}
	}
	return true
}

// areWeights reports whether a valid statute can have some weights, apart from a total of 0, for which there is no quorum.
func areWeights(l []int) bool {
	return len(l) <= api.MaxJurors && every(l, func(n int) bool { return n >= 0 && n <= api.MaxJurors }) && total(l) <= api.MaxJurors
}

// total returns the number of points of all jurors with some weights.
func total(weights []int) int {
	n := 0
	for _, w := range weights {
		n += w
	}
	return n
}

// Seats returns the points of a juror.
func Seats(x api.Statute, juror int) []int {
	if !ValidStatute(x) || !isIndex(juror, len(x.Weights)) {
		return nil
	}
	first := 1 + total(x.Weights[:juror])
	var l []int
	for i := range x.Weights[juror] {
		l = append(l, first+i)
	}
	return l
}

// areStatutes reports whether a list is a list of statutes, or empty.
func areStatutes(l []api.Statute) bool { return len(l) <= MaxStatutes && every(l, ValidStatute) }

// Governs reports whether statutes govern a task.
func Governs(l []api.Statute, t api.Task) bool {
	if !areStatutes(l) || !isIndex(t.Version, len(l)) {
		return false
	}
	x := l[t.Version]
	return t.Quorum == x.Quorum && t.Jurors == total(x.Weights)
}
