package gate_test

import (
	"slices"
	"testing"

	"cloak/api"
	"cloak/base"
	"cloak/gate"
	"cloak/ticket"
)

// P8.6: entries of the four kinds that do not belong to a showing.
func TestNotes(t *testing.T) {
	for _, s := range []api.Setup{middle(), large()} {
		d := base.NewDisk()
		g := open(t, d, s, 3, doors(s)...)
		marks := someElements(s, 3)
		for i, e := range []api.Errno{g.Learn(0, []int{7, 5}), g.Sync(0, 3, 4), g.Hear(9, 2, 4095), g.Recall(9, marks), g.Learn(api.MaxTime, []int{1})} {
			if e != api.OK {
				t.Error(i, e)
			}
		}
		var want []api.Entry
		for i, e := range []api.Entry{{Kind: api.EnLearn, Nums: []int{7, 5}}, {Kind: api.EnSync, Nums: []int{3, 4}}, {Time: 9, Kind: api.EnHear, Nums: []int{2, 4095}}, {Time: 9, Kind: api.EnRecall, Nums: marks}, {Time: api.MaxTime, Kind: api.EnLearn, Nums: []int{1}}} {
			e.Gate, e.No = 3, i
			want = append(want, seal(t, s, e))
		}
		if got := listText(g.Log()); got != listText(want) {
			t.Error(got)
		}
		// All of them are durable at once.
		if got := listText(restart(t, d, s, 3, 0, doors(s)...).Log()); got != listText(want) {
			t.Error(got)
		}
	}
}

// P8.6: errors, in their order; a call that returns one changes nothing.
func TestNoteErrors(t *testing.T) {
	s := middle()
	d := base.NewDisk()
	g := open(t, d, s, 3, doors(s)...)
	marks := someElements(s, 40)
	if g.Learn(100, []int{7, 5})+g.Recall(100, marks[:2]) != api.OK {
		t.Fatal("a new gate")
	}
	before := content(t, d)
	const late, early, never = 100, 99, api.MaxTime + 1
	for i, c := range []struct{ got, want api.Errno }{
		{g.Learn(-1, []int{8}), api.ErrArg}, {g.Learn(never, []int{8}), api.ErrArg}, {g.Learn(early, nil), api.ErrArg}, {g.Learn(late, []int{}), api.ErrArg}, {g.Learn(late, []int{0}), api.ErrArg}, {g.Learn(late, []int{1013}), api.ErrArg}, {g.Learn(early, []int{8, 8}), api.ErrArg}, {g.Learn(late, upTo(17)), api.ErrArg},
		{g.Learn(early, []int{8}), api.ErrState}, {g.Learn(late, []int{8, 7}), api.ErrState}, {g.Learn(late, upTo(16)), api.ErrState}, {g.Learn(late, upTo(30)[8:24]), api.ErrFull}, {g.Learn(early, upTo(30)[8:24]), api.ErrState}, {g.Learn(late, upTo(30)[8:23]), api.ErrFull},
		{g.Recall(-1, marks[5:6]), api.ErrArg}, {g.Recall(never, marks[5:6]), api.ErrArg}, {g.Recall(early, nil), api.ErrArg}, {g.Recall(late, []int{1}), api.ErrArg}, {g.Recall(late, []int{2026}), api.ErrArg}, {g.Recall(late, []int{4 + 2027}), api.ErrArg}, {g.Recall(early, []int{marks[5], marks[5]}), api.ErrArg}, {g.Recall(late, marks[3:36]), api.ErrArg},
		{g.Recall(early, marks[5:6]), api.ErrState}, {g.Recall(late, marks[1:3]), api.ErrState}, {g.Recall(late, marks[1:33]), api.ErrState}, {g.Recall(late, marks[2:33]), api.ErrFull}, {g.Recall(early, marks[2:34]), api.ErrState}, {g.Recall(late, marks[2:34]), api.ErrFull},
		{g.Sync(-1, 0, 0), api.ErrArg}, {g.Sync(never, 0, 0), api.ErrArg}, {g.Sync(early, 1, 0), api.ErrArg}, {g.Sync(late, -1, 0), api.ErrArg}, {g.Sync(late, 0, never), api.ErrArg}, {g.Sync(early, 0, 0), api.ErrState},
		{g.Hear(-1, 2, 0), api.ErrArg}, {g.Hear(never, 2, 0), api.ErrArg}, {g.Hear(early, 3, 0), api.ErrArg}, {g.Hear(late, 24, 0), api.ErrArg}, {g.Hear(late, -1, 0), api.ErrArg}, {g.Hear(late, 2, -1), api.ErrArg}, {g.Hear(late, 2, 4096), api.ErrArg}, {g.Hear(early, 2, 0), api.ErrState},
	} {
		if c.got != c.want {
			t.Error(i, c.got, c.want)
		}
	}
	if content(t, d) != before || len(g.Log()) != 2 {
		t.Error("changed")
	}
	if g.Learn(late, upTo(30)[8:22])+g.Recall(late, marks[2:32]) != api.OK || g.Learn(late, []int{30}) != api.ErrFull || g.Recall(late, marks[39:]) != api.ErrFull {
		t.Error("up to the limits")
	}
	if g := open(t, base.NewDisk(), s, 3); g.Learn(0, upTo(16))+g.Recall(0, marks[:32]) != api.OK {
		t.Error("as many as possible at once")
	}
}

// P8.7: what is asked, with what the log knows, and the challenges one by one.
func TestAsk(t *testing.T) {
	for _, s := range []api.Setup{middle(), large()} {
		d := base.NewDisk()
		g := open(t, d, s, 2, doors(s)...)
		var want []api.Entry
		known := []int(nil)
		for serial := range 9 {
			if serial%3 == 1 {
				g.Learn(70, []int{90 - serial, 4 + serial})
				known = append(known, 90-serial, 4+serial)
				want = append(want, seal(t, s, api.Entry{Gate: 2, No: len(want), Time: 70, Kind: api.EnLearn, Nums: []int{90 - serial, 4 + serial}}))
			}
			k := serial % 3
			no, x, e := g.Ask(70+60*(serial/8), k)
			task, _ := gate.Task(s, doors(s)[k], 70+60*(serial/8), known, 24*serial+3)
			if e != api.OK || no != len(want) || taskText(x) != taskText(task) || x.Dare != gate.Challenge(s, 2, serial) {
				t.Error(serial, no, x, e)
			}
			want = append(want, seal(t, s, api.Entry{Gate: 2, No: no, Time: 70 + 60*(serial/8), Kind: api.EnAsk, Nums: []int{k, x.Dare}, Text: taskText(task)}))
		}
		if listText(g.Log()) != listText(want) {
			t.Error(listText(g.Log()))
		}
		g = restart(t, d, s, 2, 0, doors(s)...)
		if _, x, e := g.Ask(131, 1); e != api.OK || x.Dare != 24*9+3 || listText(g.Log()[:12]) != listText(want) {
			t.Error(x, e)
		}
	}
}

// P8.7: errors, in their order.
func TestAskErrors(t *testing.T) {
	s := middle()
	const never = api.MaxTime + 1
	try := func(g *gate.Gate, now, door int, want api.Errno) {
		t.Helper()
		n := len(g.Log())
		if no, x, e := g.Ask(now, door); e != want || e != api.OK && (no != 0 || !isZeroTask(x) || len(g.Log()) != n) {
			t.Error(no, x, e, want)
		}
	}
	d := base.NewDisk()
	g := open(t, d, s, 3, doors(s)...)
	g.Sync(100, 0, 0)
	for i, c := range []struct {
		now, door int
		e         api.Errno
	}{
		{-1, 0, api.ErrArg}, {never, 0, api.ErrArg}, {100, -1, api.ErrArg}, {100, 3, api.ErrArg}, {99, 3, api.ErrArg}, {-1, 1, api.ErrArg},
		{99, 0, api.ErrState}, {99, 1, api.ErrOwner}, {100, 1, api.ErrOwner},
		// The window with the number Q - 1 has no keys.
		{60 * 1012, 0, api.ErrArg}, {100, 0, api.OK},
	} {
		t.Log(i)
		try(g, c.now, c.door, c.e)
	}
	for range 20 {
		try(g, 100, 2, api.OK)
	}
	// There are no more challenges.
	for i, c := range []struct {
		now, door int
		e         api.Errno
	}{{100, 0, api.ErrFull}, {99, 0, api.ErrState}, {100, 1, api.ErrOwner}, {100, 3, api.ErrArg}, {60 * 1012, 0, api.ErrArg}, {60 * 1013, 0, api.ErrFull}} {
		t.Log(i)
		try(g, c.now, c.door, c.e)
	}
	if g.Sync(60*1012, 0, 0) != api.OK || len(g.Log()) != 23 {
		t.Error("other entries")
	}
	// In the smallest group for which there are doors, some gates have no challenges.
	for number := range 24 {
		want := api.ErrFull
		if number < 5 {
			want = api.OK
		}
		g := open(t, base.NewDisk(), small(), number, door(small()))
		try(g, 0, 0, want)
		try(g, 0, 0, api.ErrFull)
	}
}

// P8.6, P8.7, P8.8: a log that has as many entries as possible; what is wrong otherwise comes first.
func TestFullLog(t *testing.T) {
	s := middle()
	r := random()
	var l []api.Entry
	g := open(t, base.NewDisk(), s, 2, doors(s)...)
	_, x, _ := g.Ask(70, 0)
	g.Ask(70, 0)
	g.Admit(70, 1, api.Record{})
	g.Learn(70, []int{5})
	g.Recall(70, someElements(s, 1))
	l = g.Log()
	for len(l) < 4096 {
		l = append(l, seal(t, s, api.Entry{Gate: 2, No: len(l), Time: 70, Kind: api.EnSync, Nums: []int{0, 0}}))
	}
	d := journalOf(t, recordsOf(l[:4095])...)
	g = open(t, d, s, 2, doors(s)...)
	if g.Sync(70, 0, 0) != api.OK || listText(g.Log()) != listText(l) {
		t.Fatal("the last entry")
	}
	before := content(t, d)
	record := shown(t, s, x, adult(r, s, secretP, 1, 20))
	ask := func(now, door int) api.Errno { _, _, e := g.Ask(now, door); return e }
	admit := func(now, no int, r api.Record) api.Errno { _, e := g.Admit(now, no, r); return e }
	for i, c := range []struct{ got, want api.Errno }{
		{g.Sync(70, 0, 0), api.ErrFull}, {g.Sync(69, 0, 0), api.ErrState}, {g.Sync(70, 1, 0), api.ErrArg}, {g.Hear(70, 3, 3), api.ErrFull}, {g.Learn(70, []int{6}), api.ErrFull}, {g.Learn(70, []int{5}), api.ErrState}, {g.Recall(70, someElements(s, 2)[1:]), api.ErrFull}, {g.Recall(70, someElements(s, 1)), api.ErrState}, {g.Recall(70, []int{1}), api.ErrArg},
		{ask(70, 0), api.ErrFull}, {ask(69, 0), api.ErrState}, {ask(70, 9), api.ErrArg},
		{admit(70, 0, record), api.ErrFull}, {admit(70, 0, api.Record{}), api.ErrFull}, {admit(120, 0, record), api.ErrFull}, {admit(70, 1, record), api.ErrState}, {admit(69, 0, record), api.ErrState}, {admit(70, 2, record), api.ErrArg},
	} {
		if c.got != c.want {
			t.Error(i, c.got, c.want)
		}
	}
	if content(t, d) != before {
		t.Error("changed")
	}
	l = append(l, seal(t, s, api.Entry{Gate: 2, No: 4095, Time: 70, Kind: api.EnSync, Nums: []int{0, 0}}))
	if g, e := gate.Open(journalOf(t, recordsOf(l)...), s, 2, secretOf(2), doors(s)); e != api.ErrForm || g != nil {
		t.Error("too many entries", e)
	}
}

// P8.6: errors of the disk, which are those of all later calls; what failed is not in the log, but may be there after a restart.
func TestDiskErrors(t *testing.T) {
	s := middle()
	r := random()
	calls := []func(g *gate.Gate, x api.Task) api.Errno{
		func(g *gate.Gate, x api.Task) api.Errno { return g.Learn(70, []int{9}) },
		func(g *gate.Gate, x api.Task) api.Errno { return g.Recall(70, someElements(s, 1)) },
		func(g *gate.Gate, x api.Task) api.Errno { return g.Sync(70, 0, 0) },
		func(g *gate.Gate, x api.Task) api.Errno { return g.Hear(70, 1, 0) },
		func(g *gate.Gate, x api.Task) api.Errno {
			no, y, e := g.Ask(70, 0)
			if no != 0 || !isZeroTask(y) {
				t.Error(no, y)
			}
			return e
		},
		func(g *gate.Gate, x api.Task) api.Errno {
			y, e := g.Admit(70, 0, api.Record{})
			if !isZeroEntry(y) {
				t.Error(y)
			}
			return e
		},
		func(g *gate.Gate, x api.Task) api.Errno {
			y, e := g.Admit(70, 0, shown(t, s, x, adult(r, s, secretP, 1, 20)))
			if !isZeroEntry(y) {
				t.Error(y)
			}
			return e
		},
	}
	for i, call := range calls {
		for trouble, want := range []api.Errno{api.ErrDown, api.ErrDown, api.ErrLost} {
			d := base.NewDisk()
			g := open(t, d, s, 2, doors(s)...)
			_, x, _ := g.Ask(70, 0)
			before := listText(g.Log())
			switch trouble {
			case 0, 1:
				d.Arm(trouble+1, []int{1})
			case 2:
				d.Lose(1)
			}
			if e := call(g, x); e != want || listText(g.Log()) != before {
				t.Error(i, trouble, e)
			}
			for k, other := range calls {
				if e := other(g, x); e != api.ErrState || listText(g.Log()) != before {
					t.Error(i, trouble, k, e)
				}
			}
			if g.Sync(69, 0, 0) != api.ErrState || g.Sync(70, 1, 0) != api.ErrArg {
				t.Error(i, trouble, "arguments")
			}
			if l := restart(t, d, s, 2, 1, doors(s)...).Log(); len(l) != 2 || listText(l[:1]) != before {
				t.Error(i, trouble, len(l))
			}
		}
	}
}

// P8.6: each entry takes one Append and one Sync.
func TestCalls(t *testing.T) {
	s := middle()
	d := base.NewDisk()
	g := open(t, d, s, 2, doors(s)...)
	ask := func(g *gate.Gate) api.Errno { _, _, e := g.Ask(70, 0); return e }
	refuse := func(g *gate.Gate) api.Errno { _, e := g.Admit(70, 0, api.Record{}); return e }
	for i, call := range []func(g *gate.Gate) api.Errno{
		ask, func(g *gate.Gate) api.Errno { return g.Sync(70, 0, 0) }, func(g *gate.Gate) api.Errno { return g.Learn(70, []int{4}) }, refuse,
		// These make no call.
		func(g *gate.Gate) api.Errno { return g.Learn(70, []int{4}) }, refuse, func(g *gate.Gate) api.Errno { g.Log(); return g.Sync(0, 0, 0) },
	} {
		calls := 2
		if i > 3 {
			calls = 0
		}
		d.Arm(calls+1, nil)
		e := call(g)
		if (e == api.OK || i == 3) != (i < 4) || d.Down() {
			t.Error(i, e)
		}
		if d.Sync(0); !d.Down() {
			t.Error(i, "too few calls")
		}
		d.Start()
		g = open(t, d, s, 2, doors(s)...)
		if n := len(g.Log()); n != min(i+1, 4) {
			t.Error(i, n)
		}
	}
}

// P8.6: there is no more room in the journal for an EnAsk; other entries are taken later.
func TestFullJournal(t *testing.T) {
	s := large()
	l := doors(s)
	// A question with this many blanks is as long as possible.
	l[0].Task.Question += string(slices.Repeat([]byte{' '}, 4000-len(l[0].Task.Question)))
	d := base.NewDisk()
	g := open(t, d, s, 2, l...)
	n := 0
	for ; ; n++ {
		if _, _, e := g.Ask(70, 0); e == api.ErrFull {
			break
		} else if e != api.OK || n > 300 {
			t.Fatal(n, e)
		}
	}
	if len(g.Log()) != n || n < 200 || d.Size(1) > base.MaxJournal {
		t.Error(n, d.Size(1))
	}
	if e := g.Sync(70, 0, 0); e != api.OK || len(g.Log()) != n+1 {
		t.Error(e)
	}
	if got := listText(restart(t, d, s, 2, 0, l...).Log()); got != listText(g.Log()) {
		t.Error("after a crash")
	}
}

// P8.6, P8.8: a record that is accepted, but too long for the journal: it is neither shown nor refused, and the gate goes on.
func TestLongRecord(t *testing.T) {
	r, s := random(), large()
	s.Bases = append(s.Bases, s.Bases[:3]...)
	x := api.Door{Limit: api.Limit{Count: 1, Gate: api.None}, Task: api.Task{Question: "question q { p.a <= o.a and p.b <= o.b and p.c <= o.c and p.d <= o.d and p.e <= o.e and m.a <= n.a and m.b <= n.b and m.c <= n.c }", Most: api.MaxValue, Quorum: 12, Jurors: 12}}
	var held []api.Held
	for i, name := range []string{"p", "o", "m", "n"} {
		x.Task.Passes = append(x.Task.Passes, api.Pass{Name: name, Pub: ticket.Public(s, secretP+i), Attrs: []string{"a", "b", "c", "d", "e"}})
		h := issue(r, s, secretP+i, 0, 99, 5, 5, 5, 5, 5)
		for range 4 {
			h = lend(s, h, issue(r, s, secretP+i, 0, 99, 5, 5, 5, 5, 5), "9999;0:,")
		}
		held = append(held, h)
	}
	d := base.NewDisk()
	g := open(t, d, s, 2, x)
	if e := g.Learn(5, upTo(16)); e != api.OK {
		t.Fatal(e)
	}
	no, task, e := g.Ask(5, 0)
	if e != api.OK {
		t.Fatal(e)
	}
	record := shown(t, s, task, held...)
	before := content(t, d)
	for range 2 {
		if y, e := g.Admit(6, no, record); e != api.ErrRange || !isZeroEntry(y) || len(g.Log()) != 2 || content(t, d) != before {
			t.Error(y, e, len(recordText(t, record)))
		}
	}
	if g.Sync(6, 0, 0) != api.OK {
		t.Error("the next entry")
	}
	if _, e := g.Admit(6, no, api.Record{}); e != api.ErrForm || len(g.Log()) != 4 {
		t.Error("a refusal", e)
	}
}

// P8.9: the log is new memory.
func TestLog(t *testing.T) {
	s := middle()
	g := open(t, base.NewDisk(), s, 2, doors(s)...)
	if len(g.Log()) != 0 {
		t.Error("a new gate")
	}
	numbers := []int{4, 5}
	g.Learn(3, numbers)
	numbers[0] = 6
	a, b := g.Log(), g.Log()
	a[0].Nums[0], a[0].Time = 7, 8
	if b[0].Nums[0] != 4 || listText(g.Log()) != listText(b) {
		t.Error(g.Log())
	}
}
