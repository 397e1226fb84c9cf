package inquiry_test

import (
	"math"
	"math/rand/v2"
	"slices"
	"testing"

	"cloak/api"
	"cloak/field"
	"cloak/inquiry"
	"cloak/proof"
	"cloak/show"
	"cloak/ticket"
)

// world is a setup with its mirror, and a source of numbers that are the same in each run.
type world struct {
	*rand.Rand
	s api.Setup
	m api.Mirror
}

// made returns the world with a group and a mirror.
func made(q, blind int, bases ...int) *world {
	g, ok := field.Make(q)
	m := api.Mirror{Bases: bases, Blind: blind}
	s, is := proof.Make(g, m)
	if !ok || !is {
		panic("no setup")
	}
	return &world{rand.New(rand.NewPCG(10, uint64(q))), s, m}
}

// tiny has so few numbers that all of them can be tried. There is one attribute but the number, and it is 0 or 1 in questions.
func tiny() *world { return made(11, 5, 2, 3, 4) }

// middle is a setup in which each gate has at least 21 challenges. There are two attributes but the number.
func middle() *world { return made(1013, 13, 3, 5, 7, 11) }

// large is a setup in the greatest group with the generator 4.
func large() *world {
	return made(1152921504606845789, 298023223876953125, 100000000000000007, 150094635296999121, 200000000000000003, 17)
}

// notSetups are not valid.
func notSetups() []api.Setup {
	s := middle().s
	l := []api.Setup{{}, {Group: s.Group}, {Group: api.Group{P: -1, Q: math.MaxInt, G: 4}, Bases: s.Bases, Blind: s.Blind}}
	for _, change := range []func(s *api.Setup){
		func(s *api.Setup) { s.Blind = 1 }, func(s *api.Setup) { s.Blind += s.Group.P }, func(s *api.Setup) { s.Bases = s.Bases[:1] },
		func(s *api.Setup) { s.Bases[1] = 1 }, func(s *api.Setup) { s.Group.G = 5 }, func(s *api.Setup) { s.Group.Q++ },
	} {
		bad := middle().s
		change(&bad)
		l = append(l, bad)
	}
	return l
}

// ints are numbers at which something could go wrong.
var ints = []int{math.MinInt, math.MinInt + 1, -1 << 61, -1013, -2, -1, 0, 1, 2, 3, 4, 5, 11, 12, 13, 16, 17, 23, 24, 64, 65, 1012, 1013, 4095, 4096, 4097, 65535, 65536, 1 << 31, 1 << 60, math.MaxInt - 1, math.MaxInt}

// The secrets of the issuers of the passes id and lib.
const (
	secretID  = 21
	secretLib = 22
)

// id returns the key of the pass id for a window.
func (w *world) id(window int) api.Pass {
	return api.Pass{Name: "id", Pub: w.keyFor(secretID, window), Attrs: []string{"age", "zone"}[:len(w.s.Bases)-2]}
}

// lib returns the key of the pass lib for a window.
func (w *world) lib(window int) api.Pass {
	return api.Pass{Name: "lib", Pub: w.keyFor(secretLib, window), Attrs: []string{"fee"}}
}

// keyFor returns the key of a secret for a window.
func (w *world) keyFor(secret, window int) int {
	return ticket.Public(w.s, w.secretFor(secret, window))
}

// secretFor returns the secret for a window.
func (w *world) secretFor(secret, window int) int { return field.Mul(w.s.Group.Q, secret, window+1) }

// exponents returns n random numbers modulo Q.
func (w *world) exponents(n int) []int {
	l := make([]int, n)
	for i := range l {
		l[i] = w.IntN(w.s.Group.Q)
	}
	return l
}

// issue issues a ticket for attributes with the key of a secret, and returns what the issuer and the holder have of it.
func (w *world) issue(secret int, attrs ...int) (api.Session, api.Held) {
	key := ticket.Public(w.s, secret)
	for {
		q := w.s.Group.Q
		n, b := w.IntN(q), api.Blinding{S: 1 + w.IntN(q-1), U: 1 + w.IntN(q-1), V: w.IntN(q), Ys: w.exponents(len(w.s.Bases))}
		o, e := ticket.Propose(w.s, secret, attrs, n)
		if e != api.OK {
			panic("no offer")
		}
		c, e := ticket.Ask(w.s, key, attrs, o, b)
		if e == api.ErrState {
			continue // the inner challenge is 0
		}
		r := ticket.Grant(w.s, secret, n, c)
		k, e := ticket.Finish(w.s, key, attrs, o, b, r)
		if e != api.OK {
			panic("no ticket")
		}
		return api.Session{Attrs: attrs, Offer: o, C: c, R: r}, api.Held{Attrs: attrs, Blinding: b, Ticket: k}
	}
}

// shown returns the record of a showing, and the points of the jurors.
func (w *world) shown(t *testing.T, task api.Task, held api.Held) (api.Record, []api.Point) {
	t.Helper()
	c, e := show.Toss(w.s, task, []api.Held{held}, string(rune('a'+w.IntN(26))))
	if e != api.OK {
		t.Fatal("toss", e)
	}
	r, points, e := show.Show(w.s, task, []api.Held{held}, c)
	if e != api.OK {
		t.Fatal("show", e)
	}
	return r, points
}

// statutes returns two versions: one point of three, and three points of four.
func statutes() []api.Statute {
	return []api.Statute{
		{Reasons: []string{"theft"}, Quorum: 1, Weights: []int{1, 1, 1}},
		{Reasons: []string{"alarm", "theft"}, Quorum: 3, Weights: []int{2, 0, 1, 1}},
	}
}

// anyStatute returns a valid statute with at most the given number of points, at random.
func (w *world) anyStatute(most int) api.Statute {
	x := api.Statute{Reasons: []string{"alarm", "fire", "theft"}[w.IntN(3):]}
	points := 0
	for range 1 + w.IntN(5) {
		n := w.IntN(min(3, most-points) + 1)
		x.Weights = append(x.Weights, n)
		points += n
	}
	if points == 0 {
		x.Weights[0] = 1
		points = 1
	}
	x.Quorum = 1 + w.IntN(points)
	return x
}

// court is a showing, with those who can open it.
type court struct {
	*world
	statutes []api.Statute
	keys     []int // of the jurors
	task     api.Task
	number   int // of the holder
	record   api.Record
	points   []api.Point // of all jurors
}

// secretOf returns the secret of a juror.
func (w *world) secretOf(juror int) int { return 1 + (100+juror)%(w.s.Group.Q-1) }

// jurors returns the keys of the first n jurors.
func (w *world) jurors(n int) []int {
	var l []int
	for j := range n {
		l = append(l, ticket.Public(w.s, w.secretOf(j)))
	}
	return l
}

// attrs returns attributes with a number that are all 1 otherwise.
func (w *world) attrs(number int) []int { return []int{number, 1, 1}[:len(w.s.Bases)-1] }

// number returns the number of a holder with these attributes, at random.
func (w *world) number() int {
	for {
		if n := 1 + w.IntN(w.s.Group.Q-1); ticket.Usable(w.s, w.attrs(n)) {
			return n
		}
	}
}

// courtOf returns a showing of a holder whose age is 1, which a version of some statutes governs.
func (w *world) courtOf(t *testing.T, l []api.Statute, version, number int) *court {
	t.Helper()
	points := 0
	for _, n := range l[version].Weights {
		points += n
	}
	task := api.Task{
		Version: version, Question: "question q { id.age >= 1 }", Passes: []api.Pass{w.id(0)},
		Most: 1, Dare: 5, Quorum: l[version].Quorum, Jurors: points,
	}
	_, held := w.issue(w.secretFor(secretID, 0), w.attrs(number)...)
	r, p := w.shown(t, task, held)
	return &court{w, l, w.jurors(len(l[version].Weights)), task, number, r, p}
}

// vote returns the vote of a juror about the entry 5 of the gate 2.
func (c *court) vote(t *testing.T, juror int, reason string) api.Vote {
	t.Helper()
	v := api.Vote{Juror: juror, Version: c.task.Version, Gate: 2, No: 5, Reason: reason}
	for _, n := range inquiry.Seats(c.statutes[c.task.Version], juror) {
		v.Points = append(v.Points, c.points[n-1])
	}
	return c.cast(t, v)
}

// cast returns a vote that its juror has signed.
func (c *court) cast(t *testing.T, v api.Vote) api.Vote {
	t.Helper()
	v, ok := inquiry.Cast(c.s, c.secretOf(v.Juror), c.IntN(c.s.Group.Q), v)
	if !ok {
		t.Fatal("no vote")
	}
	return v
}

// judge returns the error of a vote.
func (c *court) judge(v api.Vote) api.Errno {
	return inquiry.Judge(c.s, c.keys, c.statutes, c.task, c.record, v)
}

// open opens the use, as the entry 5 of the gate 2.
func (c *court) open(reason string, votes []api.Vote) (api.Opening, api.Errno) {
	return inquiry.Open(c.s, c.keys, c.statutes, c.task, c.record, 2, 5, reason, votes)
}

// confirms reports whether votes lead to an opening.
func (c *court) confirms(votes []api.Vote, o api.Opening) bool {
	return inquiry.Confirms(c.s, c.keys, c.statutes, c.task, c.record, votes, o)
}

// forge returns another point that belongs to the escrow, as only somebody can make it who knows the mirror.
func (c *court) forge(p api.Point, share int) api.Point {
	q := c.s.Group.Q
	inverse, _ := field.Inv(q, c.m.Blind)
	change := field.Mul(q, field.Sub(q, p.Share, share), inverse)
	return api.Point{Juror: p.Juror, Share: share, Mask: field.Add(q, p.Mask, change)}
}

// isZeroOpening reports whether an opening is the zero one.
func isZeroOpening(o api.Opening) bool { return same(o, api.Opening{}) }

// numbersTo returns the numbers from 0 to n - 1.
func numbersTo(n int) []int {
	l := make([]int, n)
	for i := range l {
		l[i] = i
	}
	return l
}

// TestSetups checks that the setups are what the tests take them for.
func TestSetups(t *testing.T) {
	for _, w := range []*world{tiny(), middle(), large()} {
		if !proof.Mirrors(w.s, w.m) {
			t.Error(w.s)
		}
		c := w.courtOf(t, statutes(), 1, 7)
		if e := show.Check(c.s, c.task, c.record); e != api.OK || len(c.points) != 4 {
			t.Error(e)
		}
		commit := c.record.Commits[len(c.record.Commits)-1]
		p := c.forge(c.points[1], (c.points[1].Share+1)%c.s.Group.Q)
		if !show.CheckPoint(c.s, commit, c.record.Escrow, p) || slices.Contains(c.points, p) {
			t.Error(p)
		}
	}
	for _, s := range notSetups() {
		if proof.ValidSetup(s) {
			t.Error(s)
		}
	}
}
