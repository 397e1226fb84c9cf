package inquiry

import (
	"slices"

	"cloak/api"
	"cloak/base"
	"cloak/proof"
	"cloak/show"
)

// Ballot returns what a juror signs.
func Ballot(v api.Vote) string {
	var points []int
	for _, p := range v.Points {
		points = append(points, p.Juror, p.Share, p.Mask)
	}
	return base.Nums([]int{v.Juror, v.Version, v.Gate, v.No}) + base.Text(v.Reason) + base.Nums(points)
}

// Cast returns a signed vote.
func Cast(s api.Setup, x, k int, v api.Vote) (api.Vote, bool) {
	sig, ok := proof.Sign(s, x, k, Ballot(v))
	if !ok {
		return api.Vote{}, false
	}
	v.Points, v.Sig = slices.Clone(v.Points), sig
	return v, true
}

// Judge returns the first error of a vote.
func Judge(s api.Setup, keys []int, l []api.Statute, t api.Task, r api.Record, v api.Vote) api.Errno {
	j, e := summon(s, keys, l, t, r)
	if e != api.OK {
		return e
	}
	return j.judge(v)
}

// jury judges votes about a showing by the statute that governs its task.
type jury struct {
	setup   api.Setup
	keys    []int
	version int
	statute api.Statute
	commit  int
	escrow  []int
}

// summon returns the jury for a task and a record, or the error because of which no vote about them is accepted.
func summon(s api.Setup, keys []int, l []api.Statute, t api.Task, r api.Record) (jury, api.Errno) {
	if e := show.Check(s, t, r); e != api.OK {
		return jury{}, e
	}
	if !Governs(l, t) {
		return jury{}, api.ErrNone
	}
	commit := r.Commits[len(r.Commits)-1] // each record that is accepted has one
	return jury{s, keys, t.Version, l[t.Version], commit, r.Escrow}, api.OK
}

// judge returns the first error of a vote.
func (j jury) judge(v api.Vote) api.Errno {
	switch {
	case v.Version != j.version:
		return api.ErrNone
	case !j.owns(v):
		return api.ErrOwner
	case !j.permits(v.Reason):
		return api.ErrName
	case !j.proves(v):
		return api.ErrCheck
	}
	return api.OK
}

// owns reports whether a vote has the points of its juror.
func (j jury) owns(v api.Vote) bool {
	seats := Seats(j.statute, v.Juror)
	return isIndex(v.Juror, len(j.statute.Weights)) && isIndex(v.Juror, len(j.keys)) &&
		slices.EqualFunc(v.Points, seats, func(p api.Point, seat int) bool { return p.Juror == seat })
}

// permits reports whether the statute permits a reason.
func (j jury) permits(reason string) bool { return slices.Contains(j.statute.Reasons, reason) }

// proves reports whether a vote is signed by its juror, of whom there is a key, and has points of the escrow.
func (j jury) proves(v api.Vote) bool {
	return proof.Signed(j.setup, j.keys[v.Juror], Ballot(v), v.Sig) &&
		every(v.Points, func(p api.Point) bool { return show.CheckPoint(j.setup, j.commit, j.escrow, p) })
}
