package gate_test

import (
	"testing"

	"cloak/api"
	"cloak/base"
	"cloak/gate"
	"cloak/show"
)

// refused checks that a record is refused for an error.
func refused(t *testing.T, g *gate.Gate, s api.Setup, now, no int, r api.Record, want api.Errno) {
	t.Helper()
	before := g.Log()
	x, e := g.Admit(now, no, r)
	if e != want || !isZeroEntry(x) {
		t.Error(e, want, x)
	}
	last := seal(t, s, api.Entry{Gate: before[0].Gate, No: len(before), Time: now, Kind: api.EnRefuse, Nums: []int{no, int(want)}})
	if got := listText(g.Log()); got != listText(append(before, last)) {
		t.Error(got)
	}
}

// failed checks that a call of Admit returns an error, and leaves the log as it is.
func failed(t *testing.T, g *gate.Gate, now, no int, r api.Record, want api.Errno) {
	t.Helper()
	before := listText(g.Log())
	if x, e := g.Admit(now, no, r); e != want || !isZeroEntry(x) || listText(g.Log()) != before {
		t.Error(e, want, x)
	}
}

// admitted checks that a record is admitted, and returns the receipt.
func admitted(t *testing.T, g *gate.Gate, s api.Setup, now, no int, r api.Record) api.Entry {
	t.Helper()
	before := g.Log()
	x, e := g.Admit(now, no, r)
	want := seal(t, s, api.Entry{Gate: before[0].Gate, No: len(before), Time: now, Kind: api.EnShow, Nums: []int{no}, Text: recordText(t, r)})
	if e != api.OK || entryText(x) != entryText(want) || listText(g.Log()) != listText(append(before, want)) {
		t.Error(e, x)
	}
	return x
}

// asked returns the number and the task of an EnAsk.
func asked(t *testing.T, g *gate.Gate, now, door int) (int, api.Task) {
	t.Helper()
	no, x, e := g.Ask(now, door)
	if e != api.OK {
		t.Fatal(e)
	}
	return no, x
}

// P8.8: a receipt is the EnShow, which is an entry of the log after every crash; what Admit returns for the arguments comes before everything else.
func TestAdmit(t *testing.T) {
	for _, s := range []api.Setup{middle(), large()} {
		r := random()
		d := base.NewDisk()
		g := open(t, d, s, 3, doors(s)...)
		g.Sync(70, 0, 0)
		no, x := asked(t, g, 70, 0)
		other, _ := asked(t, g, 70, 0)
		record := shown(t, s, x, adult(r, s, secretP, 1, 20))
		for _, now := range []int{-1, api.MaxTime + 1} {
			failed(t, g, now, no, record, api.ErrArg)
			failed(t, g, now, -1, record, api.ErrArg)
		}
		for _, not := range []int{-1, 0, 3, 1 << 40, -1 << 40} {
			failed(t, g, 69, not, record, api.ErrArg)
			failed(t, g, 70, not, record, api.ErrArg)
		}
		failed(t, g, 69, no, record, api.ErrState)
		failed(t, g, 0, no, api.Record{}, api.ErrState)
		receipt := admitted(t, g, s, 119, no, record)
		if !gate.Signed(s, keysOf(s, 4), receipt) {
			t.Error("not signed")
		}
		failed(t, g, 119, no, record, api.ErrState)
		failed(t, g, 400, no, api.Record{}, api.ErrState)
		failed(t, g, 119, 3, record, api.ErrArg) // the EnShow
		refused(t, g, s, 119, other, record, api.ErrCheck)
		failed(t, g, 119, other, record, api.ErrState)
		receipt.Nums[0] = 77
		l := restart(t, d, s, 3, 0, doors(s)...).Log()
		if listText(l) != listText(g.Log()) || len(l) != 5 || l[3].Nums[0] != no {
			t.Error(len(l))
		}
	}
}

// P8.8: the window of the door has to be the same.
func TestWindow(t *testing.T) {
	r, s := random(), middle()
	for i, c := range []struct {
		door, window, ask, now int
		e                      api.Errno
	}{
		{0, 1, 60, 119, api.OK}, {0, 1, 60, 120, api.ErrStale}, {0, 1, 119, 119, api.OK}, {0, 1, 119, 120, api.ErrStale}, {0, 0, 0, 59, api.OK}, {0, 0, 0, 600, api.ErrStale},
		{1, 0, 0, api.MaxTime, api.OK}, {1, 0, 5, 6, api.OK}, {2, 1, 90, 179, api.OK}, {2, 1, 119, 120, api.OK}, {2, 1, 90, 180, api.ErrStale},
	} {
		g := open(t, base.NewDisk(), s, 2, doors(s)...)
		no, x := asked(t, g, c.ask, c.door)
		held := []api.Held{adult(r, s, secretP, c.window, 20), adult(r, s, secretO, c.window, 20)}[:len(x.Passes)]
		if record := shown(t, s, x, held...); c.e == api.OK {
			admitted(t, g, s, c.now, no, record)
		} else {
			refused(t, g, s, c.now, no, record, c.e)
		}
		// Whatever is wrong otherwise is another error only within the window.
		no, _ = asked(t, g, c.now, c.door)
		refused(t, g, s, c.now, no, api.Record{Proof: api.Proof{Dares: [][]int{{1}}}}, api.ErrForm)
		if c.e == api.ErrStale {
			h := open(t, base.NewDisk(), s, 2, doors(s)...)
			no, _ := asked(t, h, c.ask, c.door)
			refused(t, h, s, c.now, no, api.Record{Proof: api.Proof{Dares: [][]int{{1}}}}, api.ErrStale)
		}
		t.Log(i)
	}
}

// P8.8: records that have no encoding, or that are not accepted.
func TestAdmitCheck(t *testing.T) {
	r, s := random(), middle()
	g := open(t, base.NewDisk(), s, 2, doors(s)...)
	p, o := adult(r, s, secretP, 1, 20), adult(r, s, secretO, 1, 20)
	for i, c := range []struct {
		change func(r *api.Record)
		e      api.Errno
	}{
		{func(r *api.Record) { r.Proof.Dares = r.Proof.Dares[1:] }, api.ErrForm},
		{func(r *api.Record) { r.Commits = r.Commits[1:] }, api.ErrForm},
		{func(r *api.Record) { r.Links = r.Links[1:] }, api.ErrForm},
		{func(r *api.Record) { r.Tickets[1] = r.Tickets[0] }, api.ErrTwice},
		{func(r *api.Record) { r.Tickets[0], r.Tickets[1] = r.Tickets[1], r.Tickets[0] }, api.ErrCheck},
		{func(r *api.Record) { r.Spends[0].Dare++ }, api.ErrCheck},
		{func(r *api.Record) { r.Proof.Answers[0][0][0] = (r.Proof.Answers[0][0][0] + 1) % 1013 }, api.ErrCheck},
		{func(r *api.Record) { r.Links[0] = append(r.Links[0], api.Link{Terms: "x"}) }, api.ErrCheck},
		{func(r *api.Record) { *r = api.Record{} }, api.ErrForm},
	} {
		no, x := asked(t, g, 100, 2)
		record := shown(t, s, x, p, o)
		c.change(&record)
		if c.e != api.ErrForm && show.Check(s, x, record) != c.e {
			t.Error(i, show.Check(s, x, record))
		}
		refused(t, g, s, 100, no, record, c.e)
	}
	// None of the refused records has used up the tickets.
	no, x := asked(t, g, 100, 2)
	admitted(t, g, s, 100, no, shown(t, s, x, p, o))
}

// P8.8: who has been revoked, as the gate knows, is refused: no record is accepted. What the gate learns later does not matter.
func TestAdmitRevoked(t *testing.T) {
	r, s := random(), middle()
	g := open(t, base.NewDisk(), s, 2, doors(s)...)
	a, x := asked(t, g, 70, 0)
	if e := g.Learn(70, []int{20, 21}); e != api.OK {
		t.Fatal(e)
	}
	b, y := asked(t, g, 70, 0)
	c, z := asked(t, g, 70, 0)
	h := adult(r, s, secretP, 1, 20)
	if e := show.Fits(s, y, []api.Held{h}); e != api.ErrRevoked {
		t.Error(e)
	}
	y.Revoked = nil // as the holder would have it
	refused(t, g, s, 70, b, shown(t, s, y, h), api.ErrForm)
	admitted(t, g, s, 70, c, shown(t, s, z, adult(r, s, secretP, 1, 22)))
	admitted(t, g, s, 70, a, shown(t, s, x, h))
}

// P8.8: the terms of what was lent, link by link, and what is recalled.
func TestAdmitLent(t *testing.T) {
	r, s := random(), middle()
	for i, c := range []struct {
		terms  []string
		recall int // the index of the link whose mark is recalled, or -1
		e      api.Errno
	}{
		{[]string{"80;0:,"}, -1, api.OK}, {[]string{"80;1:q,"}, -1, api.OK}, {[]string{"79;0:,"}, -1, api.ErrStale}, {[]string{"2147483648;0:,"}, -1, api.OK}, {[]string{"2147483649;0:,"}, -1, api.ErrForm},
		{[]string{""}, -1, api.ErrForm}, {[]string{"80;"}, -1, api.ErrForm}, {[]string{"80;0:,x"}, -1, api.ErrForm}, {[]string{"-1;0:,"}, -1, api.ErrForm}, {[]string{"80;1:p,"}, -1, api.ErrForm}, {[]string{"79;1:p,"}, -1, api.ErrForm}, {[]string{"80;2:qq,"}, -1, api.ErrForm}, {[]string{"80;21:qqqqqqqqqqqqqqqqqqqqq,"}, -1, api.ErrForm},
		{[]string{"90;0:,", "80;1:q,"}, -1, api.OK}, {[]string{"80;1:q,", "80;1:q,"}, -1, api.OK}, {[]string{"80;1:q,", "80;0:,"}, -1, api.ErrForm}, {[]string{"80;0:,", "81;0:,"}, -1, api.ErrForm}, {[]string{"90;0:,", "79;0:,"}, -1, api.ErrStale}, {[]string{"90;0:,", "88;0:,", "86;1:q,", "84;1:q,"}, -1, api.OK}, {[]string{"90;0:,", "88;0:,", "89;1:q,", "84;1:q,"}, -1, api.ErrForm},
		{[]string{"80;0:,"}, 0, api.ErrRevoked}, {[]string{"80;0:,"}, 1, api.OK}, {[]string{"90;0:,", "80;0:,"}, 0, api.ErrRevoked}, {[]string{"90;0:,", "80;0:,"}, 1, api.ErrRevoked}, {[]string{"90;0:,", "80;0:,"}, 2, api.OK},
		// The first link with an error decides, and of its errors the first one.
		{[]string{"79;0:,", "x"}, -1, api.ErrStale}, {[]string{"x", "79;0:,"}, -1, api.ErrForm}, {[]string{"90;0:,", "x"}, 0, api.ErrRevoked}, {[]string{"79;0:,"}, 0, api.ErrStale}, {[]string{"79;1:p,"}, 0, api.ErrForm}, {[]string{"90;0:,", "95;0:,"}, 0, api.ErrRevoked}, {[]string{"90;0:,", "95;0:,"}, 1, api.ErrForm}, {[]string{"90;0:,", "79;0:,"}, 1, api.ErrStale},
	} {
		g := open(t, base.NewDisk(), s, 2, doors(s)...)
		h := adult(r, s, secretP, 1, 20)
		marks := []int{h.Ticket.Mark}
		for k, terms := range c.terms {
			h = lend(s, h, adult(r, s, []int{secretGuest, secretP}[k%2], 1, 21+k), terms)
			marks = append(marks, h.Ticket.Mark)
		}
		no, x := asked(t, g, 70, 0)
		if c.recall >= 0 {
			g.Recall(80, marks[c.recall:c.recall+1])
		}
		record := shown(t, s, x, h)
		if e := linksError(x, record, 80, numbersOf(g.Log(), api.EnRecall)); e != c.e {
			t.Error(i, e)
		}
		if c.e == api.OK {
			admitted(t, g, s, 80, no, record)
		} else {
			refused(t, g, s, 80, no, record, c.e)
		}
	}
}

// P8.8: the links of the first pass come before those of the second one.
func TestAdmitLists(t *testing.T) {
	r, s := random(), middle()
	borrow := func(secret int, terms string) api.Held {
		return lend(s, adult(r, s, secret, 0, 30), adult(r, s, secret, 0, 20), terms)
	}
	for i, c := range []struct {
		p, o   string
		recall int // the pass whose link is recalled, or -1
		e      api.Errno
	}{
		{"80;0:,", "80;3:two,", -1, api.OK}, {"80;0:,", "x", -1, api.ErrForm}, {"79;0:,", "x", -1, api.ErrStale}, {"80;0:,", "x", 0, api.ErrRevoked}, {"80;0:,", "79;0:,", 0, api.ErrRevoked}, {"x", "79;0:,", 1, api.ErrForm}, {"79;0:,", "80;0:,", 1, api.ErrStale}, {"80;0:,", "80;0:,", 1, api.ErrRevoked},
		// The terms of one list need not narrow those of another one.
		{"80;3:two,", "99;0:,", -1, api.OK},
	} {
		g := open(t, base.NewDisk(), s, 2, doors(s)...)
		held := []api.Held{borrow(secretP, c.p), borrow(secretO, c.o)}
		no, x := asked(t, g, 70, 2)
		if c.recall >= 0 {
			g.Recall(80, []int{held[c.recall].Links[0].Ticket.Mark})
		}
		if record := shown(t, s, x, held...); c.e == api.OK {
			admitted(t, g, s, 80, no, record)
		} else {
			t.Log(i)
			refused(t, g, s, 80, no, record, c.e)
		}
	}
}

// P8.8: tickets that were spent at this gate before, themselves or for other tickets; this is the last error.
func TestAdmitTwice(t *testing.T) {
	r, s := random(), middle()
	a, b, c, d := adult(r, s, secretP, 0, 20), adult(r, s, secretGuest, 0, 21), adult(r, s, secretP, 0, 22), adult(r, s, secretO, 0, 20)
	o, fresh := adult(r, s, secretO, 0, 20), adult(r, s, secretP, 0, 20)
	for i, x := range []struct {
		door   int
		before []api.Held
		next   int
		held   []api.Held
		e      api.Errno
	}{
		{0, []api.Held{a}, 0, []api.Held{a}, api.ErrTwice}, {0, []api.Held{a}, 1, []api.Held{a}, api.ErrTwice}, {0, []api.Held{a}, 0, []api.Held{c}, api.OK},
		{0, []api.Held{a}, 0, []api.Held{lend(s, a, b, "99;0:,")}, api.ErrTwice}, {0, []api.Held{lend(s, a, b, "99;0:,")}, 0, []api.Held{a}, api.ErrTwice}, {0, []api.Held{lend(s, a, b, "99;0:,")}, 0, []api.Held{lend(s, a, c, "99;0:,")}, api.ErrTwice}, {0, []api.Held{lend(s, a, b, "99;0:,")}, 0, []api.Held{lend(s, c, b, "99;0:,")}, api.ErrTwice},
		{0, []api.Held{lend(s, a, b, "99;0:,")}, 0, []api.Held{c}, api.OK}, {0, []api.Held{a}, 2, []api.Held{a, d}, api.ErrTwice}, {2, []api.Held{a, d}, 0, []api.Held{a}, api.ErrTwice}, {2, []api.Held{a, d}, 2, []api.Held{fresh, d}, api.ErrTwice}, {2, []api.Held{a, d}, 2, []api.Held{fresh, o}, api.OK},
		{0, []api.Held{a}, 0, []api.Held{lend(s, a, b, "54;0:,")}, api.ErrStale}, {0, []api.Held{a}, 0, []api.Held{lend(s, a, b, "x")}, api.ErrForm},
	} {
		g := open(t, base.NewDisk(), s, 2, doors(s)...)
		no, y := asked(t, g, 50, x.door)
		admitted(t, g, s, 50, no, shown(t, s, y, x.before...))
		no, y = asked(t, g, 55, x.next)
		if record := shown(t, s, y, x.held...); x.e == api.OK {
			admitted(t, g, s, 55, no, record)
		} else {
			t.Log(i)
			refused(t, g, s, 55, no, record, x.e)
		}
	}
	// Recalled and spent before: it is the recall that counts.
	g := open(t, base.NewDisk(), s, 2, doors(s)...)
	no, y := asked(t, g, 50, 0)
	admitted(t, g, s, 50, no, shown(t, s, y, lend(s, a, b, "99;0:,")))
	g.Recall(50, []int{a.Ticket.Mark})
	no, y = asked(t, g, 50, 0)
	refused(t, g, s, 50, no, shown(t, s, y, lend(s, a, c, "99;0:,")), api.ErrRevoked)
	// A gate does not know what was spent at others.
	h := open(t, base.NewDisk(), s, 3, doors(s)...)
	no, y = asked(t, h, 50, 0)
	admitted(t, h, s, 50, no, shown(t, s, y, a))
}

// P8.8, P8.17: a ticket that was seen before a crash is known after it.
func TestTwiceAfterCrash(t *testing.T) {
	r, s := random(), middle()
	d := base.NewDisk()
	g := open(t, d, s, 2, doors(s)...)
	h := adult(r, s, secretP, 1, 20)
	no, x := asked(t, g, 70, 0)
	receipt := admitted(t, g, s, 70, no, shown(t, s, x, h))
	g = restart(t, d, s, 2, 0, doors(s)...)
	no, x = asked(t, g, 71, 0)
	refused(t, g, s, 71, no, shown(t, s, x, h), api.ErrTwice)
	if entryText(g.Log()[receipt.No]) != entryText(receipt) {
		t.Error("the receipt")
	}
}
