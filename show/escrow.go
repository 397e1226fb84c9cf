package show

import (
	"slices"

	"cloak/api"
	"cloak/field"
	"cloak/proof"
)

// Deal returns the commitments of an escrow, and the points of the jurors.
func Deal(s api.Setup, number, blind int, shares, masks []int, jurors int) ([]int, []api.Point, bool) {
	g := group{s}
	if !proof.ValidSetup(s) || !g.exponents(number, blind) || !g.exponents(shares...) || !g.exponents(masks...) {
		return nil, nil, false
	}
	if len(shares) != len(masks) || len(shares) >= jurors || jurors > api.MaxJurors || jurors >= s.Group.Q {
		return nil, nil, false
	}
	share := slices.Concat([]int{number}, shares)
	mask := slices.Concat([]int{blind}, masks)
	points := make([]api.Point, jurors)
	for i := range points {
		points[i] = api.Point{Juror: i + 1, Share: field.At(s.Group.Q, share, i+1), Mask: field.At(s.Group.Q, mask, i+1)}
	}
	return g.commits(shares, masks), points, true
}

// CheckPoint reports whether a point belongs to an escrow.
func CheckPoint(s api.Setup, commit int, escrow []int, p api.Point) bool {
	g := group{s}
	if !proof.ValidSetup(s) || len(escrow) >= api.MaxJurors || !g.elements(commit) || !g.elements(escrow...) {
		return false
	}
	if p.Juror < 1 || p.Juror > api.MaxJurors || p.Juror >= s.Group.Q || !g.exponents(p.Share, p.Mask) {
		return false
	}
	want := commit
	for j, x := range escrow {
		want = g.times(want, g.power(x, field.Pow(s.Group.Q, p.Juror, j+1)))
	}
	return g.commit(p.Share, p.Mask) == want
}

// Open returns the number and the blind that points of an escrow open.
func Open(s api.Setup, commit int, escrow []int, points []api.Point) (int, int, api.Errno) {
	if slices.ContainsFunc(points, func(p api.Point) bool { return !CheckPoint(s, commit, escrow, p) }) {
		return 0, 0, api.ErrArg
	}
	jurors := each(points, func(p api.Point) int { return p.Juror })
	if !different(jurors) {
		return 0, 0, api.ErrTwice
	}
	if len(points) <= len(escrow) {
		return 0, 0, api.ErrQuorum
	}
	number, ok := origin(s.Group.Q, jurors, each(points, func(p api.Point) int { return p.Share }), len(escrow)+1)
	blind, is := origin(s.Group.Q, jurors, each(points, func(p api.Point) int { return p.Mask }), len(escrow)+1)
	if !ok || !is {
		return 0, 0, api.ErrFork
	}
	return number, blind, api.OK
}

// origin returns the value at 0 of the polynomial of at most n coefficients that leads through points, of which there are at least n, and reports whether there is one.
func origin(q int, xs, ys []int, n int) (int, bool) {
	// There is only one polynomial with as many coefficients as there are points.
	p, ok := field.Through(q, xs, ys)
	if !ok || slices.ContainsFunc(p[n:], func(x int) bool { return x != 0 }) {
		return 0, false
	}
	return p[0], true
}
