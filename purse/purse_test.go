package purse_test

import (
	"slices"
	"testing"

	"cloak/api"
	"cloak/base"
	"cloak/purse"
	"cloak/ticket"
)

// four returns tickets for the limit 0 and the windows 2 and 3, and two for the limit 1.
func four(s api.Setup) []api.Held {
	r := random()
	return []api.Held{anyHeld(r, s, 0, 2), anyHeld(r, s, 0, 3), anyHeld(r, s, 1, 0), anyHeld(r, s, 1, 0)}
}

// statuses returns the statuses of all items.
func statuses(p *purse.Purse) []int {
	var l []int
	for _, x := range p.Items() {
		l = append(l, x.Status)
	}
	return l
}

// The document's examples.
func TestExamples(t *testing.T) {
	r, s := random(), small()
	h := anyHeld(r, s, 0, 2)
	d, p := filled(t, s, someLimits(), h)
	if i, e := p.Reserve(0, 2900, 5); i != 0 || e != api.OK {
		t.Error(i, e)
	}
	if i, e := p.Reserve(0, 2901, 6); i != 0 || e != api.ErrOver || p.Left(0, 2900) != 0 {
		t.Error(i, e)
	}
	p = restart(t, d, s, someLimits(), 0)
	if x, e := p.Answer(0); e != api.ErrState || !isZeroSpend(x) || p.Items()[0].Status != api.PuBurned {
		t.Error(x, e)
	}
	_, p = filled(t, s, someLimits(), anyHeld(r, s, 0, 3), h)
	if q, e := purse.Restore(base.NewDisk(), s, someLimits(), p.Backup(), 3000); e != api.OK || len(q.Items()) != 1 || q.Items()[0].Held.Window != 3 {
		t.Error(e)
	}
}

// P7.6: errors, in their order; what is added is there at once, and on the disk.
func TestAdd(t *testing.T) {
	s := middle()
	l := four(s)
	d := base.NewDisk()
	p := open(t, d, s, someLimits())
	want := ""
	for i, h := range l {
		if e := p.Add(h); e != api.OK || len(p.Items()) != i+1 || itemsText(p.Items()[i:]) != itemsText([]api.Item{{Held: h}}) {
			t.Error(i, e)
		}
		record := "0;" + encoded(h)
		want += text(record) + base.Num(base.Sum(record))
	}
	if content(t, d) != want {
		t.Error(content(t, d), want)
	}
	other := l[1]
	other.Window, other.Limit, other.Links = 0, 2, make([]api.Link, 4)
	notValid := l[1]
	notValid.Limit = 3
	if p.Add(l[0]) != api.ErrTwice || p.Add(other) != api.ErrTwice || p.Add(notValid) != api.ErrArg || p.Add(api.Held{}) != api.ErrArg {
		t.Error("errors")
	}
	// Tickets that were used are not added again either.
	for i := range 2 {
		if _, e := p.Reserve(1, 0, 5+i); e != api.OK || p.Add(l[2+i]) != api.ErrTwice {
			t.Error(e)
		}
	}
	if p.Done(2) != api.OK || p.Add(l[2]) != api.ErrTwice {
		t.Error("done")
	}
	more := anyHeld(random(), s, 0, 0)
	more.Ticket.R = (more.Ticket.R + 1) % 1013
	d.Arm(1, nil)
	if p.Add(more) != api.ErrDown || p.Add(more) != api.ErrState || p.Add(notValid) != api.ErrArg || p.Add(l[0]) != api.ErrTwice || len(p.Items()) != 4 {
		t.Error("down")
	}
}

// P7.6, P7.10: Add, Done and Back make one call of the disk, which is no Sync.
func TestNotSynced(t *testing.T) {
	s := middle()
	d, p := filled(t, s, someLimits(), four(s)...)
	if len(restart(t, d.Copy(), s, someLimits(), 0).Items()) != 0 || len(restart(t, d.Copy(), s, someLimits(), 1).Items()) != 4 {
		t.Error("add")
	}
	_, e := p.Reserve(0, 2900, 5)
	_, _, f := p.Lend(1, 0, four(s)[0].Ticket, "9;0:,")
	if e != api.OK || f != api.OK {
		t.Fatal(e, f)
	}
	for i, call := range []func() api.Errno{func() api.Errno { return p.Done(0) }, func() api.Errno { return p.Back(2) }, func() api.Errno { return p.Done(2) }} {
		d.Arm(2, nil)
		if e := call(); e != api.OK {
			t.Error(i, e)
		}
		// This is the second call.
		if c := d.Copy(); c.Write(1, 0, "x") != api.ErrDown {
			t.Error(i)
		}
	}
	lost, kept := restart(t, d.Copy(), s, someLimits(), 0), restart(t, d.Copy(), s, someLimits(), 1)
	if !slices.Equal(statuses(lost), []int{api.PuBurned, api.PuFree, api.PuBurned, api.PuFree}) || lost.Items()[2].Back || len(lost.Recalled()) > 0 {
		t.Error(statuses(lost))
	}
	if !slices.Equal(statuses(kept), []int{api.PuDone, api.PuFree, api.PuDone, api.PuFree}) || !kept.Items()[2].Back || len(kept.Recalled()) != 1 {
		t.Error(statuses(kept))
	}
}

// P7.7: errors, in their order, and which ticket is reserved.
func TestReserve(t *testing.T) {
	s := middle()
	_, p := filled(t, s, someLimits(), four(s)...)
	for i, c := range []struct {
		limit, now, dare, want int
		e                      api.Errno
	}{
		{3, 2900, 5, 0, api.ErrArg}, {-1, 2900, 5, 0, api.ErrArg}, {0, -1, 5, 0, api.ErrArg}, {0, 1<<31 + 1, 5, 0, api.ErrArg}, {0, 2900, 0, 0, api.ErrArg}, {0, 2900, -1, 0, api.ErrArg}, {0, 2900, 1013, 0, api.ErrArg}, {2, 0, 1013, 0, api.ErrArg}, {2, 0, 1012, 0, api.ErrOver},
		{0, 2879, 5, 0, api.ErrOver}, {0, 5760, 5, 0, api.ErrOver}, {0, 1 << 31, 5, 0, api.ErrOver}, {0, 4320, 5, 1, api.OK}, {0, 4320, 6, 0, api.ErrOver}, {0, 5759, 5, 0, api.ErrOver}, {1, 1 << 31, 7, 2, api.OK}, {1, 0, 1012, 3, api.OK}, {1, 5, 1, 0, api.ErrOver}, {0, 2880, 1, 0, api.OK}, {0, 2880, 1, 0, api.ErrOver},
	} {
		if got, e := p.Reserve(c.limit, c.now, c.dare); got != c.want || e != c.e {
			t.Error(i, got, e)
		}
	}
	for i, dare := range []int{1, 5, 7, 1012} {
		x := p.Items()[i]
		if x.Status != api.PuReserved || x.Dare != dare || x.Lent || x.Back {
			t.Error(i, x)
		}
	}
}

// P7.7, P7.8: the errors of the disk. After one of Append the ticket is free, after one of Sync it is burned.
func TestUseErrors(t *testing.T) {
	s := middle()
	l := four(s)
	dare := ticket.LendDare(s, l[0].Ticket, "9;0:,")
	for i, c := range []struct {
		trouble      func(d *base.Disk)
		e            api.Errno
		status, dare int
	}{
		{func(d *base.Disk) { d.Arm(1, nil) }, api.ErrDown, api.PuFree, 0},
		{func(d *base.Disk) { d.Arm(1, []int{1}) }, api.ErrDown, api.PuFree, 0},
		{func(d *base.Disk) { d.Crash(nil) }, api.ErrDown, api.PuFree, 0},
		{func(d *base.Disk) { d.Arm(2, nil) }, api.ErrDown, api.PuBurned, dare},
		{func(d *base.Disk) { d.Arm(2, []int{1}) }, api.ErrDown, api.PuBurned, dare},
		{func(d *base.Disk) { d.Lose(1) }, api.ErrLost, api.PuBurned, dare},
		{func(d *base.Disk) { d.Lose(5) }, api.ErrLost, api.PuBurned, dare},
	} {
		for _, lend := range []bool{false, true} {
			d, p := filled(t, s, someLimits(), l...)
			c.trouble(d)
			use := func(limit int) (int, api.Errno) {
				if !lend {
					return p.Reserve(limit, 2900, dare)
				}
				k, links, e := p.Lend(limit, 2900, l[0].Ticket, "9;0:,")
				if len(links) > 0 {
					t.Error(links)
				}
				return k, e
			}
			if k, e := use(1); k != 0 || e != c.e {
				t.Error(i, lend, k, e)
			}
			if x := p.Items()[2]; x.Status != c.status || x.Dare != c.dare || x.Lent || x.Back || p.Left(1, 0) != map[int]int{api.PuFree: 2, api.PuBurned: 1}[c.status] {
				t.Error(i, lend, x)
			}
			x, e := p.Answer(2)
			if e != api.ErrState || !isZeroSpend(x) || p.Back(2) != api.ErrState || p.Done(2) != api.ErrState {
				t.Error(i, lend, e)
			}
			// The journal is closed now.
			if k, e := use(0); k != 0 || e != api.ErrState || p.Items()[0].Status != api.PuFree {
				t.Error(i, lend, k, e)
			}
			if _, e := use(2); e != api.ErrOver {
				t.Error(i, lend, e)
			}
		}
	}
}

// P7.7, P7.8: they make two calls of the disk: a Write of the record, and a Sync.
func TestUseCalls(t *testing.T) {
	s := middle()
	for _, lend := range []bool{false, true} {
		d, p := filled(t, s, someLimits(), four(s)...)
		size := d.Size(0)
		d.Arm(3, nil)
		var e api.Errno
		record := nums(1, 2, 77)
		if lend {
			_, _, e = p.Lend(1, 0, api.Ticket{Mark: 8}, "9;0:,")
			record = nums(3, 2, ticket.LendDare(s, api.Ticket{Mark: 8}, "9;0:,"))
		} else {
			_, e = p.Reserve(1, 0, 77)
		}
		if e != api.OK || content(t, d)[size:] != text(record)+base.Num(base.Sum(record)) {
			t.Error(lend, e)
		}
		if c := d.Copy(); c.Write(1, 0, "x") != api.ErrDown {
			t.Error(lend)
		}
		q := restart(t, d, s, someLimits(), 0)
		if x := q.Items()[2]; len(q.Items()) != 4 || x.Status != api.PuBurned || x.Lent != lend || x.Dare == 0 {
			t.Error(lend, x)
		}
	}
}

// P7.9: for each status.
func TestAnswer(t *testing.T) {
	s := middle()
	l := four(s)
	d, p := filled(t, s, someLimits(), l...)
	refused := func(i int, want api.Errno) {
		t.Helper()
		if x, e := p.Answer(i); e != want || !isZeroSpend(x) {
			t.Error(i, x, e)
		}
	}
	answers := func(i, dare int) {
		t.Helper()
		x, e := p.Answer(i)
		if want, ok := ticket.Use(s, l[i].Attrs, l[i].Blinding, dare); e != api.OK || !ok || !sameSpends(x, want) || x.Dare != dare {
			t.Error(i, x, e)
		}
	}
	refused(0, api.ErrState)
	refused(-1, api.ErrNone)
	refused(4, api.ErrNone)
	p.Reserve(0, 2900, 5)
	_, links, _ := p.Lend(1, 0, l[0].Ticket, "9;0:,")
	answers(0, 5)
	answers(0, 5)
	answers(2, links[0].Spend.Dare)
	if p.Done(0) != api.OK || p.Done(2) != api.OK || p.Back(2) != api.OK {
		t.Error("done")
	}
	answers(0, 5)
	answers(2, links[0].Spend.Dare)
	d.Lose(1)
	if _, e := p.Reserve(1, 0, 9); e != api.ErrLost {
		t.Error(e)
	}
	refused(3, api.ErrState)
	// What is done remains so, also when the machine is down.
	d.Crash(nil)
	answers(0, 5)
	d.Start()
	p = open(t, d, s, someLimits())
	refused(0, api.ErrState)
	refused(2, api.ErrState)
	refused(3, api.ErrState)
	refused(4, api.ErrNone)
}

// P7.10: for each status, and the errors of the disk.
func TestDoneAndBack(t *testing.T) {
	s := middle()
	l := four(s)
	d, p := filled(t, s, someLimits(), l...)
	p.Reserve(0, 2900, 5)
	p.Lend(1, 0, l[0].Ticket, "9;0:,")
	for i, c := range []struct{ at, done, back int }{{-1, 4, 4}, {4, 4, 4}, {1 << 62, 4, 4}, {1, 7, 7}, {0, 0, 7}, {0, 7, 7}, {2, 0, 0}, {2, 7, 7}} {
		if e := p.Back(c.at); int(e) != c.back {
			t.Error(i, "back", e)
		}
		if e := p.Done(c.at); int(e) != c.done {
			t.Error(i, "done", e)
		}
	}
	if x := p.Items()[2]; x.Status != api.PuDone || !x.Lent || !x.Back {
		t.Error(x)
	}
	// A ticket that was lent may be taken back after a crash; whether its record survives is another question.
	d, p = filled(t, s, someLimits(), l...)
	p.Lend(1, 0, l[0].Ticket, "9;0:,")
	p = restart(t, d, s, someLimits(), 0)
	if p.Done(2) != api.ErrState || p.Back(2) != api.OK || p.Back(2) != api.ErrState || p.Items()[2].Status != api.PuBurned || len(p.Recalled()) != 1 {
		t.Error(p.Items()[2])
	}
	// Errors of the disk change nothing.
	p.Lend(1, 0, l[0].Ticket, "9;0:,")
	d.Arm(1, nil)
	if p.Done(3) != api.ErrDown || p.Done(3) != api.ErrState || p.Back(3) != api.ErrState || p.Done(4) != api.ErrNone || p.Items()[3].Status != api.PuReserved || p.Items()[3].Back {
		t.Error(p.Items()[3])
	}
	if x, e := p.Answer(3); e != api.OK || x.Dare == 0 {
		t.Error(x, e)
	}
}

// P7.11
func TestViews(t *testing.T) {
	s := middle()
	l := four(s)
	_, p := filled(t, s, someLimits(), l...)
	for i, c := range []struct{ limit, now, want int }{{0, 2900, 1}, {0, 2880, 1}, {0, 2879, 0}, {0, 4320, 1}, {0, 5760, 0}, {0, 0, 0}, {1, 0, 2}, {1, 1 << 31, 2}, {1, 1<<31 + 1, 0}, {1, -1, 0}, {2, 0, 0}, {3, 0, 0}, {-1, 0, 0}, {1 << 62, 0, 0}} {
		if got := p.Left(c.limit, c.now); got != c.want {
			t.Error(i, got)
		}
	}
	if len(p.Recalled()) > 0 {
		t.Error(p.Recalled())
	}
	for range 2 {
		p.Lend(1, 0, l[0].Ticket, "9;0:,")
	}
	if p.Back(3) != api.OK || !slices.Equal(p.Recalled(), []api.Ticket{l[3].Ticket}) || p.Back(2) != api.OK || !slices.Equal(p.Recalled(), []api.Ticket{l[2].Ticket, l[3].Ticket}) {
		t.Error(p.Recalled())
	}
	if p.Left(1, 0) != 0 || p.Left(0, 2900) != 1 || len(p.Items()) != 4 {
		t.Error(p.Items())
	}
	for i, x := range p.Items() {
		if encoded(x.Held) != encoded(l[i]) {
			t.Error(i, x)
		}
	}
}
