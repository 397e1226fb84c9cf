package inquiry_test

import (
	"slices"
	"testing"

	"cloak/api"
	"cloak/inquiry"
	"cloak/proof"
)

// P10.2: the ballot is what the document says, for any numbers and strings.
func TestBallot(t *testing.T) {
	v := api.Vote{Juror: 1, Version: 2, Gate: 3, No: 4, Reason: "x", Points: []api.Point{{Juror: 5, Share: 6, Mask: 7}, {Juror: 8, Share: 9, Mask: -10}}, Sig: api.Signature{C: 1, S: 2}}
	if got := inquiry.Ballot(v); got != "4[1;2;3;4;]1:x,6[5;6;7;8;9;-10;]" {
		t.Error(got)
	}
	if got := inquiry.Ballot(api.Vote{}); got != "4[0;0;0;0;]0:,0[]" {
		t.Error(got)
	}
	w := middle()
	number := func() int { return ints[w.IntN(len(ints))] }
	for range 300 {
		v := api.Vote{Juror: number(), Version: number(), Gate: number(), No: number(), Reason: []string{"", "a,b", "theft", "\x00\xff", "3[", "é"}[w.IntN(6)]}
		for range w.IntN(4) {
			v.Points = append(v.Points, api.Point{Juror: number(), Share: number(), Mask: number()})
		}
		if got := inquiry.Ballot(v); got != ballotOf(v) {
			t.Error(v, got)
		}
	}
}

// P10.2: a vote is cast with the signature of its ballot, and with nothing else changed.
func TestCast(t *testing.T) {
	for _, w := range []*world{tiny(), middle(), large()} {
		q := w.s.Group.Q
		v := api.Vote{Juror: -3, Version: 7, Gate: 1 << 40, No: 2, Reason: "any reason", Points: []api.Point{{Juror: 4, Share: -5, Mask: 6}}, Sig: api.Signature{C: 4, S: 4}}
		for _, x := range []int{0, 1, 5, q - 1} {
			for _, k := range []int{0, 1, 5, q - 1} {
				got, ok := inquiry.Cast(w.s, x, k, v)
				want := copied(v)
				want.Sig, _ = proof.Sign(w.s, x, k, ballotOf(v))
				if !ok || !same(got, want) {
					t.Error(got, ok)
				}
			}
		}
		for _, bad := range []int{-1, q, q + 1, 1 << 62, -1 << 62} {
			for _, c := range [][2]int{{bad, 1}, {1, bad}} {
				if got, ok := inquiry.Cast(w.s, c[0], c[1], v); ok || !same(got, api.Vote{}) {
					t.Error(got, ok)
				}
			}
		}
	}
	for _, s := range notSetups() {
		if got, ok := inquiry.Cast(s, 1, 1, api.Vote{Juror: 1}); ok || !same(got, api.Vote{}) {
			t.Error(got, ok)
		}
	}
}

// P10.3: votes with one thing wrong.
func TestJudge(t *testing.T) {
	c := middle().courtOf(t, statutes(), 1, 77)
	for j := range 4 {
		for _, reason := range []string{"alarm", "theft"} {
			if e := c.judge(c.vote(t, j, reason)); e != api.OK {
				t.Error(j, reason, e)
			}
		}
	}
	q := c.s.Group.Q
	for i, x := range []struct {
		change func(v *api.Vote)
		again  bool // whether the juror signs what was changed
		e      api.Errno
	}{
		{func(v *api.Vote) {}, true, api.OK},
		{func(v *api.Vote) { v.Gate, v.No = -5, 1<<50 }, true, api.OK},
		{func(v *api.Vote) { v.Reason = "alarm" }, true, api.OK},
		{func(v *api.Vote) { v.Version = 0 }, true, api.ErrNone},
		{func(v *api.Vote) { v.Version = 2 }, true, api.ErrNone},
		{func(v *api.Vote) { v.Juror = -1 }, false, api.ErrOwner},
		{func(v *api.Vote) { v.Juror = 4 }, false, api.ErrOwner},
		{func(v *api.Vote) { v.Juror, v.Points = 4, nil }, true, api.ErrOwner},
		{func(v *api.Vote) { v.Juror, v.Points = -1, nil }, false, api.ErrOwner},
		{func(v *api.Vote) { v.Juror = 2 }, true, api.ErrOwner},
		{func(v *api.Vote) { v.Points = nil }, true, api.ErrOwner},
		{func(v *api.Vote) { v.Points = v.Points[:1] }, true, api.ErrOwner},
		{func(v *api.Vote) { v.Points = append(v.Points, c.points[2]) }, true, api.ErrOwner},
		{func(v *api.Vote) { v.Points = append(v.Points, v.Points[1]) }, true, api.ErrOwner},
		{func(v *api.Vote) { v.Points[0], v.Points[1] = v.Points[1], v.Points[0] }, true, api.ErrOwner},
		{func(v *api.Vote) { v.Points[1] = v.Points[0] }, true, api.ErrOwner},
		{func(v *api.Vote) { v.Points[1] = c.points[2] }, true, api.ErrOwner},
		{func(v *api.Vote) { v.Reason = "fraud" }, true, api.ErrName},
		{func(v *api.Vote) { v.Reason = "" }, true, api.ErrName},
		{func(v *api.Vote) { v.Reason = "alarm" }, false, api.ErrCheck},
		{func(v *api.Vote) { v.Gate++ }, false, api.ErrCheck},
		{func(v *api.Vote) { v.No++ }, false, api.ErrCheck},
		{func(v *api.Vote) { v.Sig.C = (v.Sig.C + 1) % q }, false, api.ErrCheck},
		{func(v *api.Vote) { v.Sig.S = (v.Sig.S + 1) % q }, false, api.ErrCheck},
		{func(v *api.Vote) { v.Sig.S += q }, false, api.ErrCheck},
		{func(v *api.Vote) { v.Sig = api.Signature{} }, false, api.ErrCheck},
		{func(v *api.Vote) { v.Points[0].Share = (v.Points[0].Share + 1) % q }, true, api.ErrCheck},
		{func(v *api.Vote) { v.Points[1].Mask = (v.Points[1].Mask + 1) % q }, true, api.ErrCheck},
		{func(v *api.Vote) { v.Points[1].Share += q }, true, api.ErrCheck},
		{func(v *api.Vote) { v.Points[1] = c.forge(v.Points[1], 4) }, true, api.OK},
		{func(v *api.Vote) { v.Points[1] = c.forge(v.Points[1], 4) }, false, api.ErrCheck},
	} {
		v := c.vote(t, 0, "theft")
		x.change(&v)
		if x.again {
			v = c.cast(t, v)
		}
		if e := c.judge(v); e != x.e || e != judged(c.s, c.keys, c.statutes, c.task, c.record, v) {
			t.Error(i, e)
		}
	}
}

// P10.3: a juror without points votes without points.
func TestJurorWithoutPoints(t *testing.T) {
	c := middle().courtOf(t, statutes(), 1, 77)
	v := c.vote(t, 1, "theft")
	if e := c.judge(v); e != api.OK || len(v.Points) > 0 {
		t.Error(e)
	}
	v.Points = c.points[2:3]
	if e := c.judge(c.cast(t, v)); e != api.ErrOwner {
		t.Error(e)
	}
}

// P10.3: a key makes nobody a juror to whom the statute gives no weight.
func TestNoJuror(t *testing.T) {
	c := middle().courtOf(t, statutes(), 1, 77)
	c.keys = c.jurors(6)
	for j, want := range []api.Errno{api.OK, api.OK, api.OK, api.OK, api.ErrOwner, api.ErrOwner, api.ErrOwner} {
		if e := c.judge(c.vote(t, j, "theft")); e != want {
			t.Error(j, e)
		}
	}
	if o, e := c.open("theft", []api.Vote{c.vote(t, 4, "theft"), c.vote(t, 0, "theft"), c.vote(t, 2, "theft")}); e != api.OK || !slices.Equal(o.Jurors, []int{0, 2}) {
		t.Error(o, e)
	}
}

// P10.3, P2: of several errors the first one is returned; keys and statutes that do not suffice.
func TestJudgeOrder(t *testing.T) {
	c := middle().courtOf(t, statutes(), 1, 77)
	good := c.vote(t, 2, "theft")
	task, record := c.task, c.record
	worst := api.Vote{Version: 5, Juror: 9, Reason: "?"}
	check := func(what string, v api.Vote, want api.Errno) {
		t.Helper()
		if e := c.judge(v); e != want {
			t.Error(what, e)
		}
	}
	c.record = api.Record{}
	check("form", worst, api.ErrForm)
	check("form", good, api.ErrForm)
	c.task.Quorum = 4
	check("form", good, api.ErrForm)
	c.task, c.record = api.Task{}, record
	check("task", good, api.ErrArg)
	c.task = task
	c.task.Dare++
	check("dare", worst, api.ErrCheck)
	check("dare", good, api.ErrCheck)
	c.task = task
	check("version", worst, api.ErrNone)
	c.statutes = statutes()[:1]
	check("statutes", good, api.ErrNone)
	c.statutes = append(statutes(), api.Statute{})
	check("statutes", good, api.ErrNone)
	c.statutes = nil
	check("statutes", good, api.ErrNone)
	c.statutes = statutes()
	c.statutes[1].Quorum = 2
	check("quorum", good, api.ErrNone)
	c.statutes = statutes()
	c.statutes[1].Weights = []int{2, 0, 1, 2}
	check("points", good, api.ErrNone)
	c.statutes[1].Weights = []int{2, 0, 2}
	check("the points of the juror", good, api.ErrOwner)
	c.statutes = statutes()
	worst.Version = 1
	check("juror", worst, api.ErrOwner)
	v := good
	v.Reason, v.Sig = "?", api.Signature{}
	v.Points = nil
	check("points", v, api.ErrOwner)
	v.Points = good.Points
	check("reason", v, api.ErrName)
	v.Reason = "theft"
	check("signature", v, api.ErrCheck)
	check("nothing", good, api.OK)
	for n := range 4 {
		c.keys = c.jurors(n)
		want := api.ErrOwner
		if n == 3 {
			want = api.OK
		}
		check("keys", good, want)
	}
	for _, key := range []int{0, 1, -1, c.s.Group.P, c.keys[0], 1 << 62} {
		c.keys = c.jurors(4)
		c.keys[2] = key
		check("key", good, api.ErrCheck)
	}
	c.keys = c.jurors(4)
	for _, s := range notSetups() {
		c.s = s
		check("setup", good, api.ErrArg)
	}
}

// P10.3: the jury of another version has other keys and points.
func TestJudgeVersions(t *testing.T) {
	w := middle()
	for version, weights := range [][]int{{1, 1, 1}, {2, 0, 1, 1}} {
		c := w.courtOf(t, statutes(), version, 5)
		for j := range weights {
			v := c.vote(t, j, "theft")
			if e := c.judge(v); e != api.OK || len(v.Points) != weights[j] {
				t.Error(version, j, e)
			}
			v.Version = 1 - version
			if e := c.judge(c.cast(t, v)); e != api.ErrNone {
				t.Error(version, j, e)
			}
		}
		if e := c.judge(c.vote(t, 0, "alarm")); (e == api.OK) != (version == 1) || e != api.OK && e != api.ErrName {
			t.Error(version, e)
		}
	}
}

// P10.3: any votes, keys and statutes, of which some numbers are wrong, are judged as the definition says.
func TestJudgeAny(t *testing.T) {
	w := middle()
	seen := map[api.Errno]int{}
	for i := range 3000 {
		l := []api.Statute{w.anyStatute(12), w.anyStatute(12)}
		if i%20 == 0 {
			l = statutes()
		}
		c := w.courtOf(t, l, w.IntN(2), w.number())
		jurors := len(c.keys)
		for range 8 {
			v := c.vote(t, w.IntN(jurors), []string{"theft", "fire", "alarm"}[w.IntN(3)])
			for range w.IntN(3) {
				spoil(w.Rand, &v)
			}
			if within(v.Juror, 0, 20) && w.IntN(4) > 0 {
				v = c.cast(t, v)
			}
			d := *c
			d.keys = c.jurors(jurors + w.IntN(2))
			if w.IntN(8) == 0 {
				d.statutes = copied(c.statutes)
				spoil(w.Rand, &d.keys)
				spoil(w.Rand, &d.statutes)
			}
			e := d.judge(v)
			if e != judged(d.s, d.keys, d.statutes, d.task, d.record, v) {
				t.Fatal(d.statutes, v, e)
			}
			seen[e]++
		}
		if i > 300 && len(seen) >= 5 {
			break
		}
	}
	for _, e := range []api.Errno{api.OK, api.ErrNone, api.ErrOwner, api.ErrName, api.ErrCheck} {
		if seen[e] < 20 {
			t.Error(e, seen[e])
		}
	}
}
