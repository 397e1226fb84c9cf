package inquiry_test

import (
	"fmt"
	"slices"
	"testing"

	"cloak/api"
	"cloak/field"
	"cloak/inquiry"
	"cloak/show"
)

// votesOf returns the votes of all jurors for a reason.
func (c *court) votesOf(t *testing.T, reason string) []api.Vote {
	t.Helper()
	var l []api.Vote
	for j := range c.keys {
		l = append(l, c.vote(t, j, reason))
	}
	return l
}

// pointsOf returns how many points some jurors have.
func (c *court) pointsOf(jurors []int) int {
	n := 0
	for _, j := range jurors {
		n += c.statutes[c.task.Version].Weights[j]
	}
	return n
}

// subsets calls a function for all subsets of the numbers below n.
func subsets(n int, f func(l []int)) {
	for set := range 1 << n {
		var l []int
		for i := range n {
			if set>>i&1 == 1 {
				l = append(l, i)
			}
		}
		f(l)
	}
}

// P10.4, P10.12, T7: of any jurors, those whose points are at least the quorum open the number of the holder, and no others open anything. (Example 10 of the whole.)
func TestOpenBySubsets(t *testing.T) {
	for _, w := range []*world{tiny(), middle(), large()} {
		shapes := []api.Statute{{Reasons: []string{"theft"}, Quorum: 2, Weights: []int{1, 2}}, {Reasons: []string{"theft"}, Quorum: 1, Weights: []int{1}}, statutes()[0], statutes()[1]}
		for range 8 {
			shapes = append(shapes, w.anyStatute(min(12, w.s.Group.Q-1)))
		}
		for i, x := range shapes {
			number := w.number()
			c := w.courtOf(t, []api.Statute{x}, 0, number)
			all := c.votesOf(t, "theft")
			subsets(len(all), func(jurors []int) {
				var votes []api.Vote
				for _, j := range jurors {
					votes = append(votes, all[j])
				}
				c.Shuffle(len(votes), func(i, k int) { votes[i], votes[k] = votes[k], votes[i] })
				o, e := c.open("theft", votes)
				if c.pointsOf(jurors) < x.Quorum {
					if e != api.ErrQuorum || !isZeroOpening(o) || c.confirms(votes, o) {
						t.Error(i, jurors, o, e)
					}
					return
				}
				want := api.Opening{Gate: 2, No: 5, Reason: "theft", Jurors: jurors, Holder: number}
				if e != api.OK || !same(o, want) || !c.confirms(votes, want) {
					t.Error(i, jurors, o, e)
				}
			})
		}
	}
}

// P10.13, T7: fewer points than the quorum say nothing: for each number there is exactly one dealing with the same escrow and the same points.
func TestPointsSayNothing(t *testing.T) {
	w := tiny()
	tried := 0
	for _, x := range []api.Statute{
		{Reasons: []string{"theft"}, Quorum: 2, Weights: []int{1, 2}},
		{Reasons: []string{"theft"}, Quorum: 3, Weights: []int{2, 1, 0, 1}},
		{Reasons: []string{"theft"}, Quorum: 3, Weights: []int{1, 1, 5}},
	} {
		c := w.courtOf(t, []api.Statute{x}, 0, 4)
		commit, q := c.record.Commits[len(c.record.Commits)-1], w.s.Group.Q
		subsets(len(x.Weights), func(jurors []int) {
			if c.pointsOf(jurors) != x.Quorum-1 {
				return
			}
			tried++
			var seats []int
			for _, j := range jurors {
				seats = append(seats, inquiry.Seats(x, j)...)
			}
			for number := range q {
				blind, _ := field.Inv(q, w.m.Blind)
				blind = field.Mul(q, blind, field.Sub(q, exponentOf(w, commit), number))
				if n := dealings(c, number, blind, seats); n != 1 {
					t.Error(x, jurors, number, n)
				}
			}
		})
	}
	if tried != 6 {
		t.Error(tried)
	}
}

// exponentOf returns the exponent of an element of a small group.
func exponentOf(w *world, x int) int {
	for k := range w.s.Group.Q {
		if field.Power(w.s.Group, w.s.Group.G, k) == x {
			return k
		}
	}
	return -1
}

// dealings returns how many shares and masks lead to the escrow of a showing, and to its points with some numbers.
func dealings(c *court, number, blind int, seats []int) int {
	n, q := c.task.Quorum-1, c.s.Group.Q
	count := 0
	l := make([]int, 2*n)
	for {
		escrow, points, ok := show.Deal(c.s, number, blind, l[:n], l[n:], c.task.Jurors)
		if ok && slices.Equal(escrow, c.record.Escrow) && !slices.ContainsFunc(seats, func(i int) bool { return points[i-1] != c.points[i-1] }) {
			count++
		}
		i := 0
		for i < len(l) && l[i] == q-1 {
			l[i] = 0
			i++
		}
		if i == len(l) {
			return count
		}
		l[i]++
	}
}

// P10.4: votes that count, and votes that do not.
func TestOpen(t *testing.T) {
	c := middle().courtOf(t, statutes(), 1, 77)
	all := c.votesOf(t, "theft")
	bad := copied(all[0])
	bad.Points[0].Share++
	other, later := copied(all[0]), copied(all[0])
	other.Gate, later.No = 3, 6
	other, later = c.cast(t, other), c.cast(t, later)
	old := copied(all[0])
	old.Version = 0
	old = c.cast(t, old)
	again := c.cast(t, all[0]) // with another signature
	for i, x := range []struct {
		votes  []api.Vote
		e      api.Errno
		jurors []int
	}{
		{nil, api.ErrQuorum, nil},
		{all[:1], api.ErrQuorum, nil},
		{all[:2], api.ErrQuorum, nil},
		{all[1:], api.ErrQuorum, nil},
		{[]api.Vote{all[0], all[2]}, api.OK, []int{0, 2}},
		{[]api.Vote{all[2], all[0]}, api.OK, []int{0, 2}},
		{[]api.Vote{all[3], all[1], all[0]}, api.OK, []int{0, 1, 3}},
		{all, api.OK, []int{0, 1, 2, 3}},
		{[]api.Vote{all[0], all[0]}, api.ErrQuorum, nil},
		{[]api.Vote{all[0], again}, api.ErrQuorum, nil},
		{[]api.Vote{all[2], all[2], all[2]}, api.ErrQuorum, nil},
		{[]api.Vote{all[0], again, all[2], all[0], all[2]}, api.OK, []int{0, 2}},
		{[]api.Vote{all[2], bad}, api.ErrQuorum, nil},
		{[]api.Vote{all[2], bad, all[0]}, api.OK, []int{0, 2}},
		{[]api.Vote{all[2], other}, api.ErrQuorum, nil},
		{[]api.Vote{all[2], other, all[0]}, api.OK, []int{0, 2}},
		{[]api.Vote{all[2], later}, api.ErrQuorum, nil},
		{[]api.Vote{all[2], later, all[0]}, api.OK, []int{0, 2}},
		{[]api.Vote{all[2], old}, api.ErrQuorum, nil},
		{[]api.Vote{old, all[0], all[2]}, api.OK, []int{0, 2}},
		{[]api.Vote{all[2], c.vote(t, 0, "alarm")}, api.ErrQuorum, nil},
		{[]api.Vote{c.vote(t, 0, "alarm"), all[2], all[0]}, api.OK, []int{0, 2}},
	} {
		want := api.Opening{}
		if x.e == api.OK {
			want = api.Opening{Version: 1, Gate: 2, No: 5, Reason: "theft", Jurors: x.jurors, Holder: 77}
		}
		o, e := c.open("theft", x.votes)
		if e != x.e || !same(o, want) {
			t.Error(i, o, e)
		}
		if c.confirms(x.votes, o) != (x.e == api.OK) {
			t.Error(i)
		}
	}
}

// P10.4, P2: of several errors the first one is returned.
func TestOpenErrors(t *testing.T) {
	c := middle().courtOf(t, statutes(), 1, 77)
	votes := c.votesOf(t, "theft")
	fails := func(d court, reason string, votes []api.Vote, want api.Errno) {
		t.Helper()
		if o, e := d.open(reason, votes); e != want || !isZeroOpening(o) {
			t.Error(o, e)
		}
		if d.confirms(votes, api.Opening{Version: 1, Gate: 2, No: 5, Reason: reason, Jurors: numbersTo(4), Holder: 77}) || d.confirms(votes, api.Opening{}) {
			t.Error("confirmed")
		}
	}
	d := *c
	for _, s := range notSetups() {
		d.world = &world{c.Rand, s, c.m}
		fails(d, "?", nil, api.ErrArg)
	}
	d = *c
	d.task.Question = "question q { id.fee = 1 }"
	fails(d, "theft", votes, api.ErrName)
	d = *c
	d.record.Escrow = nil
	d.statutes = nil
	fails(d, "?", nil, api.ErrForm)
	d = *c
	d.task.Version = 0 // this makes another context
	fails(d, "?", nil, api.ErrCheck)
	d = *c
	for _, l := range [][]api.Statute{nil, statutes()[:1], {statutes()[1], statutes()[0]}, append(statutes(), api.Statute{}), slices.Repeat(statutes(), 9)} {
		d.statutes = l
		fails(d, "?", nil, api.ErrNone)
		fails(d, "theft", votes, api.ErrNone)
	}
	fails(*c, "?", nil, api.ErrName)
	fails(*c, "fraud", votes, api.ErrName)
	fails(*c, "", votes, api.ErrName)
	fails(*c, "theft", nil, api.ErrQuorum)
	fails(*c, "alarm", votes, api.ErrQuorum)
	d = *c
	d.keys = c.jurors(2)
	fails(d, "theft", votes, api.ErrQuorum)
	d.keys = nil
	fails(d, "theft", votes, api.ErrQuorum)
	// Points that are not on one polynomial, although each of them belongs to the escrow.
	forged := copied(votes)
	forged[3].Points[0] = c.forge(c.points[3], (c.points[3].Share+1)%1013)
	forged[3] = c.cast(t, forged[3])
	fails(*c, "theft", forged, api.ErrFork)
	if _, e := c.open("theft", forged[:3]); e != api.OK {
		t.Error(e)
	}
}

// P10.4: an opening is confirmed exactly if it is what the votes lead to.
func TestConfirms(t *testing.T) {
	c := middle().courtOf(t, statutes(), 1, 77)
	votes := c.votesOf(t, "theft")
	o, _ := c.open("theft", votes[:3])
	if !c.confirms(votes[:3], o) || c.confirms(votes, o) {
		t.Error(o)
	}
	for i, change := range []func(o *api.Opening){
		func(o *api.Opening) { o.Version = 0 }, func(o *api.Opening) { o.Gate = 3 }, func(o *api.Opening) { o.No = 6 },
		func(o *api.Opening) { o.Reason = "alarm" }, func(o *api.Opening) { o.Reason = "fraud" }, func(o *api.Opening) { o.Reason = "" },
		func(o *api.Opening) { o.Jurors = nil }, func(o *api.Opening) { o.Jurors = []int{0, 2} }, func(o *api.Opening) { o.Jurors = []int{0, 2, 1} },
		func(o *api.Opening) { o.Jurors = []int{0, 1, 3} }, func(o *api.Opening) { o.Jurors = []int{0, 1, 2, 3} }, func(o *api.Opening) { o.Jurors = []int{0, 1, 2, 2} },
		func(o *api.Opening) { o.Holder = 76 }, func(o *api.Opening) { o.Holder = 0 }, func(o *api.Opening) { o.Holder += 1013 },
	} {
		x := copied(o)
		change(&x)
		if c.confirms(votes[:3], x) {
			t.Error(i, x)
		}
	}
}

// P10.4, P10.12, P10.14: any votes, in any order, with forged points, and with others among them, lead to the opening of the definition. With further votes it has the same holder, and what does not count can be left out.
func TestOpenAny(t *testing.T) {
	w := middle()
	results := map[string]int{}
	for range 120 {
		c := w.courtOf(t, []api.Statute{w.anyStatute(12), w.anyStatute(12)}, w.IntN(2), w.number())
		for range 10 {
			votes := c.anyVotes(t)
			number, no, reason := 2, 5, "theft"
			if w.IntN(10) == 0 {
				number, no = 2+w.IntN(2), 5+w.IntN(2)
			}
			o, e := inquiry.Open(c.s, c.keys, c.statutes, c.task, c.record, number, no, reason, votes)
			want, f := opened(c.s, c.keys, c.statutes, c.task, c.record, number, no, reason, votes)
			if e != f || !same(o, want) {
				t.Fatal(votes, o, e)
			}
			results[fmt.Sprint("error ", e)]++
			var counted []api.Vote
			var jurors []int
			points := 0
			for _, v := range votes {
				if v.Gate == number && v.No == no && v.Reason == reason && c.judge(v) == api.OK {
					counted = append(counted, v)
					if !slices.Contains(jurors, v.Juror) {
						jurors, points = append(jurors, v.Juror), points+len(v.Points)
					}
				}
			}
			if x, f := inquiry.Open(c.s, c.keys, c.statutes, c.task, c.record, number, no, reason, counted); f != e || !same(x, o) {
				t.Error("votes that do not count", x, f)
			}
			if c.confirms(votes, o) != (e == api.OK) {
				t.Error("confirms")
			}
			if e == api.OK {
				slices.Sort(jurors)
				if points < c.statutes[c.task.Version].Quorum || !slices.Equal(jurors, o.Jurors) {
					t.Error(o, points)
				}
				if o.Holder != c.number {
					results["forged"]++
				}
			}
			more := append(slices.Clone(votes), c.anyVotes(t)...)
			x, f := inquiry.Open(c.s, c.keys, c.statutes, c.task, c.record, number, no, reason, more)
			if e == api.OK && f == api.OK {
				results["more"]++
				if x.Holder != o.Holder {
					t.Error(votes, more, o, x)
				}
			}
			if len(counted) == len(jurors) {
				w.Shuffle(len(votes), func(i, k int) { votes[i], votes[k] = votes[k], votes[i] })
				if x, f := inquiry.Open(c.s, c.keys, c.statutes, c.task, c.record, number, no, reason, votes); f != e || !same(x, o) {
					t.Error("another order", x, f)
				}
			}
		}
	}
	for _, s := range []string{"error 0", "error 18", "error 20", "more", "forged"} {
		if results[s] < 20 {
			t.Error(s, results)
		}
	}
}

// anyVotes returns votes of any jurors, some of which are for other uses, reasons or versions, some not accepted, and some with forged points.
func (c *court) anyVotes(t *testing.T) []api.Vote {
	t.Helper()
	var l []api.Vote
	for range c.IntN(8) {
		v := c.vote(t, c.IntN(len(c.keys)), "theft")
		switch c.IntN(12) {
		case 0:
			spoil(c.Rand, &v)
		case 1:
			v.Gate++
			v = c.cast(t, v)
		case 2:
			v.No++
			v = c.cast(t, v)
		case 3:
			v.Version = 1 - v.Version
			v = c.cast(t, v)
		case 4:
			v = c.vote(t, v.Juror, "alarm")
		case 5:
			if i := len(v.Points) - 1; i >= 0 {
				v.Points[i] = c.forge(v.Points[i], c.IntN(c.s.Group.Q))
				v = c.cast(t, v)
			}
		}
		l = append(l, v)
	}
	return l
}

// P10.4, P10.14: of several accepted votes of a juror the first one counts.
func TestFirstVoteCounts(t *testing.T) {
	c := middle().courtOf(t, statutes(), 0, 77) // each juror has one of the points, of which one is enough
	good := c.vote(t, 1, "theft")
	forged := copied(good)
	forged.Points[0] = c.forge(good.Points[0], 5)
	if c.task.Quorum != 1 || forged.Points[0] == good.Points[0] {
		t.Fatal(forged)
	}
	forged = c.cast(t, forged)
	for _, x := range []struct {
		votes  []api.Vote
		holder int
	}{{[]api.Vote{good, forged}, 77}, {[]api.Vote{forged, good}, 5}} {
		o, e := c.open("theft", x.votes)
		if e != api.OK || o.Holder != x.holder || !slices.Equal(o.Jurors, []int{1}) {
			t.Error(o, e)
		}
	}
}

// P10.12: what a record of show.Show opens is the number of its holder, also with a revocation log, several names, and the greatest statutes.
func TestHolder(t *testing.T) {
	w := large()
	l := []api.Statute{{Reasons: []string{"x"}, Quorum: 12, Weights: slices.Repeat([]int{1}, 12)}, {Reasons: []string{"x"}, Quorum: 12, Weights: []int{12}}, {Reasons: []string{"x"}, Quorum: 7, Weights: []int{3, 0, 4, 5}}}
	for version, x := range l {
		number := 1 + w.IntN(w.s.Group.Q-1)
		task := api.Task{Version: version, Question: "question q { id.age >= 18 and id.zone < id.age }", Passes: []api.Pass{w.id(3)}, Most: 100, Revoked: []int{3, 4, 5}, Dare: 77, Quorum: x.Quorum, Jurors: 12}
		_, held := w.issue(w.secretFor(secretID, 3), number, 30, 4)
		r, points := w.shown(t, task, held)
		c := &court{w, l, w.jurors(12), task, number, r, points}
		var votes []api.Vote
		for j := range x.Weights {
			votes = append(votes, c.vote(t, j, "x"))
		}
		if o, e := c.open("x", votes); e != api.OK || o.Holder != number || o.Version != version || !slices.Equal(o.Jurors, numbersTo(len(votes))) || !c.confirms(votes, o) {
			t.Error(o, e)
		}
	}
}
