package gate_test

import (
	"math/rand/v2"
	"slices"
	"testing"

	"cloak/api"
	"cloak/base"
	"cloak/gate"
	"cloak/ticket"
)

// P8.5: arguments with which no gate is opened; the disk is left alone then.
func TestOpenArguments(t *testing.T) {
	s := middle()
	l := doors(s)
	refused := func(s api.Setup, number, secret int, l ...api.Door) {
		t.Helper()
		d := base.NewDisk()
		d.Arm(1, nil)
		if g, e := gate.Open(d, s, number, secret, l); e != api.ErrArg || g != nil || d.Down() {
			t.Error(s, number, secret, g, e)
		}
	}
	for _, not := range notSetups() {
		refused(not, 0, 9)
		refused(not, 0, 9, l...)
	}
	for _, number := range []int{-1, 24, 1 << 62, api.None} {
		refused(s, number, 9, l...)
	}
	for _, secret := range []int{0, -1, s.Group.Q, s.Group.Q + 9} {
		refused(s, 0, secret, l...)
	}
	refused(s, 0, 9, slices.Repeat(l, 6)[:17]...)
	refused(s, 0, 9, append(l, api.Door{})...)
	refused(s, 0, 9, append([]api.Door{{Limit: l[0].Limit}}, l...)...)
	bad := door(s)
	bad.Limit.Count = 0
	refused(s, 0, 9, l[0], bad)
	for _, number := range []int{0, 23} {
		for _, n := range []int{0, 1, 16} {
			if g := open(t, base.NewDisk(), s, number, slices.Repeat(l, 6)[:n]...); len(g.Log()) > 0 {
				t.Error(number, n)
			}
		}
	}
}

// P8.5: the errors of the journal, which come before that of its records; the error of the arguments comes before both.
func TestOpenErrors(t *testing.T) {
	s := middle()
	try := func(d *base.Disk, want api.Errno) {
		t.Helper()
		if g, e := gate.Open(d, s, 0, secretOf(0), doors(s)); e != want || g != nil {
			t.Error(g, e, want)
		}
	}
	d := journalOf(t, "x")
	try(d, api.ErrForm)
	d.Lose(1)
	try(d, api.ErrLost)
	d.Arm(1, nil)
	try(d, api.ErrDown)
	try(d, api.ErrDown)
	if g, e := gate.Open(d, s, 0, 0, nil); e != api.ErrArg || g != nil {
		t.Error(g, e)
	}
	d.Start()
	try(d, api.ErrForm)
	// Records on another file do not matter.
	d = base.NewDisk()
	d.Write(0, 0, "2:xx,360;")
	open(t, d, s, 0, doors(s)...)
}

// P8.5: Open makes the calls of OpenJournal, and no others.
func TestOpenCalls(t *testing.T) {
	s := middle()
	l := logOf(t, s, 0)
	for _, tail := range []string{"", "5:half"} {
		calls := 1 // Sync
		if tail != "" {
			calls = 2 // Truncate
		}
		d := journalOf(t, recordsOf(l)...)
		whole := content(t, d)
		d.Write(1, len(whole), tail)
		d.Arm(calls+1, []int{1})
		g := open(t, d, s, 0, doors(s)...)
		if d.Down() || content(t, d) != whole || listText(g.Log()) != listText(l) {
			t.Error(tail, "too many calls")
		}
		if d.Sync(0); !d.Down() {
			t.Error(tail, "too few calls")
		}
	}
}

// recordsOf returns the encodings of entries.
func recordsOf(l []api.Entry) []string {
	var records []string
	for _, e := range l {
		records = append(records, entryText(e))
	}
	return records
}

// logOf returns the log of a gate with entries of all kinds.
func logOf(t *testing.T, s api.Setup, number int) []api.Entry {
	t.Helper()
	r := rand.New(rand.NewPCG(3, uint64(number)))
	g := open(t, base.NewDisk(), s, number, doors(s)...)
	lent := lend(s, adult(r, s, secretP, 1, 20+number), adult(r, s, secretGuest, 1, 40), "99;1:q,")
	g.Learn(60, []int{77, 5})
	a, x, _ := g.Ask(61, 0)
	b, y, _ := g.Ask(61, 0)
	g.Sync(62, 1000, 1010)
	if _, e := g.Admit(63, b, shown(t, s, y, lent)); e != api.OK {
		t.Fatal(e)
	}
	if _, e := g.Admit(64, a, shown(t, s, x, lent)); e != api.ErrTwice {
		t.Fatal(e)
	}
	g.Hear(64, (number+1)%24, 3)
	g.Recall(65, someElements(s, 2))
	g.Learn(65, []int{6})
	a, x, _ = g.Ask(66, 0)
	if _, e := g.Admit(67, a, shown(t, s, x, adult(r, s, secretP, 1, 30+number))); e != api.OK {
		t.Fatal(e)
	}
	g.Ask(68, 2)
	return g.Log()
}

// P8.5, P8.9: logs of several gates and setups are read as they were written.
func TestOpenLogs(t *testing.T) {
	for _, s := range []api.Setup{middle(), large()} {
		for _, number := range []int{0, 4, 23} {
			l := logOf(t, s, number)
			key := ticket.Public(s, secretOf(number))
			if len(l) != 12 || !isLog(s, key, number, l) {
				t.Fatal(len(l))
			}
			for n := range len(l) + 1 {
				g := open(t, journalOf(t, recordsOf(l[:n])...), s, number, doors(s)...)
				if listText(g.Log()) != listText(l[:n]) {
					t.Error(number, n)
				}
			}
			for _, other := range []int{0, 1, 4, 5, 23} {
				if g, e := gate.Open(journalOf(t, recordsOf(l)...), s, other, secretOf(number), doors(s)); (e == api.OK) != (other == number) || (g == nil) != (e == api.ErrForm) {
					t.Error(number, other, e)
				}
			}
			if g, e := gate.Open(journalOf(t, recordsOf(l)...), s, number, secretOf(number)+11, doors(s)); e != api.ErrForm || g != nil {
				t.Error(number, e)
			}
			// The last EnAsk is at the door 2.
			for n := range 3 {
				if g, e := gate.Open(journalOf(t, recordsOf(l)...), s, number, secretOf(number), doors(s)[:n]); e != api.ErrForm || g != nil {
					t.Error(number, n, e)
				}
			}
		}
	}
}

// P8.5: lists of entries, all of which are signed, and which are logs or not.
func TestOpenNoLog(t *testing.T) {
	s := middle()
	entry := func(time, kind int, n ...int) api.Entry { return api.Entry{Time: time, Kind: kind, Nums: n} }
	ask := func(time, door, dare int) api.Entry {
		return api.Entry{Time: time, Kind: api.EnAsk, Nums: []int{door, dare}, Text: taskText(api.Task{Dare: dare})}
	}
	show := func(time, no int) api.Entry {
		return api.Entry{Time: time, Kind: api.EnShow, Nums: []int{no}, Text: zeroRecord()}
	}
	marks := someElements(s, 33)
	for i, c := range []struct {
		ok bool
		l  []api.Entry
	}{
		{true, nil}, {true, []api.Entry{entry(5, api.EnSync, 0, 0), entry(5, api.EnSync, 0, 0)}}, {false, []api.Entry{entry(5, api.EnSync, 0, 0), entry(4, api.EnSync, 0, 0)}},
		{true, []api.Entry{ask(0, 0, 3), ask(0, 2, 27), ask(0, 1, 51)}}, {false, []api.Entry{ask(0, 0, 3), ask(0, 2, 3)}}, {false, []api.Entry{ask(0, 0, 27)}}, {false, []api.Entry{ask(0, 0, 4)}}, {false, []api.Entry{ask(0, 3, 3)}}, {true, []api.Entry{entry(0, api.EnSync, 0, 0), ask(0, 0, 3)}},
		{true, []api.Entry{ask(0, 0, 3), show(0, 0)}}, {true, []api.Entry{ask(0, 0, 3), entry(0, api.EnRefuse, 0, 7)}}, {false, []api.Entry{ask(0, 0, 3), show(0, 0), show(0, 0)}}, {false, []api.Entry{ask(0, 0, 3), show(0, 0), entry(0, api.EnRefuse, 0, 7)}}, {false, []api.Entry{ask(0, 0, 3), show(0, 0), show(0, 1)}},
		{false, []api.Entry{entry(0, api.EnSync, 0, 0), show(0, 0)}}, {true, []api.Entry{ask(0, 0, 3), ask(0, 0, 27), show(0, 1), entry(0, api.EnRefuse, 0, 1)}},
		{true, []api.Entry{entry(0, api.EnLearn, 1, 2), entry(0, api.EnLearn, 3)}}, {false, []api.Entry{entry(0, api.EnLearn, 1, 2), entry(0, api.EnLearn, 3, 1)}}, {true, []api.Entry{entry(0, api.EnLearn, upTo(16)...)}}, {false, []api.Entry{entry(0, api.EnLearn, upTo(16)...), entry(0, api.EnLearn, 17)}},
		{true, []api.Entry{entry(0, api.EnRecall, marks[:32]...)}}, {false, []api.Entry{entry(0, api.EnRecall, marks[:32]...), entry(0, api.EnRecall, marks[32])}}, {false, []api.Entry{entry(0, api.EnRecall, marks[:3]...), entry(0, api.EnRecall, marks[2:4]...)}},
	} {
		for k := range c.l {
			c.l[k].Gate, c.l[k].No = 2, k
			c.l[k] = seal(t, s, c.l[k])
		}
		g, e := gate.Open(journalOf(t, recordsOf(c.l)...), s, 2, secretOf(2), doors(s))
		if c.ok && (e != api.OK || listText(g.Log()) != listText(c.l)) || !c.ok && (e != api.ErrForm || g != nil) || c.ok != (isLog(s, ticket.Public(s, secretOf(2)), 2, c.l) && !slices.ContainsFunc(c.l, isElsewhere)) {
			t.Error(i, e)
		}
		if len(c.l) > 1 {
			if _, e := gate.Open(journalOf(t, recordsOf(c.l[1:])...), s, 2, secretOf(2), doors(s)); e != api.ErrForm {
				t.Error(i, e)
			}
		}
	}
}

// isElsewhere reports whether an entry is an EnAsk at a door that is none of doors.
func isElsewhere(e api.Entry) bool { return e.Kind == api.EnAsk && e.Nums[0] > 2 }

// P8.5: random changes of logs, against the definition; some of the entries are signed again, others not.
func TestOpenSpoiled(t *testing.T) {
	r, s := random(), middle()
	good := logOf(t, s, 0)
	opened := 0
	for range 1500 {
		l := slices.Clone(good)
		for range 1 + r.IntN(2) {
			l = spoilLog(t, r, s, l)
		}
		ok := isLog(s, ticket.Public(s, secretOf(0)), 0, l) && !slices.ContainsFunc(l, isElsewhere)
		d := journalOf(t, recordsOf(l)...)
		before := content(t, d)
		g, e := gate.Open(d, s, 0, secretOf(0), doors(s))
		if ok && (e != api.OK || listText(g.Log()) != listText(l)) || !ok && (e != api.ErrForm || g != nil) || content(t, d) != before {
			t.Fatal(ok, e, listText(l))
		}
		if ok {
			opened++
		}
	}
	if opened < 100 || opened > 1000 {
		t.Error(opened)
	}
}

// spoilLog returns a list of entries with one change, where most entries have the numbers of their indices, and are signed.
func spoilLog(t *testing.T, r *rand.Rand, s api.Setup, l []api.Entry) []api.Entry {
	t.Helper()
	if len(l) < 2 {
		return l
	}
	i, k, again := r.IntN(len(l)), r.IntN(len(l)), true
	switch x := &l[i]; r.IntN(8) {
	case 0:
		l = slices.Delete(l, i, i+1)
	case 1:
		l = slices.Insert(l, k, l[i])
	case 2:
		l[i], l[k] = l[k], l[i]
	case 3:
		x.Time += r.IntN(3) - 1
	case 4:
		x.Nums = slices.Clone(x.Nums)
		x.Nums[r.IntN(len(x.Nums))] += r.IntN(3) - 1
	case 5:
		l = l[:i]
	case 6:
		x.No, again = r.IntN(5), false
	case 7:
		x.Sig.S, again = x.Sig.S+r.IntN(2), false
	}
	if again {
		for i := range l {
			l[i].No = i
			if x, ok := gate.Seal(s, secretOf(0), l[i]); ok {
				l[i] = x
			}
		}
	}
	return l
}
