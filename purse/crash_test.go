package purse_test

import (
	"math/rand/v2"
	"testing"

	"cloak/api"
	"cloak/base"
	"cloak/purse"
)

// device is a device whose machine crashes, with what is known of its tickets from outside.
type device struct {
	t      *testing.T
	s      api.Setup
	disk   *base.Disk
	purse  *purse.Purse
	spends map[api.Ticket]api.Spend // all that were returned
	synced []api.Item               // when a Reserve or a Lend last returned OK
	tried  map[api.Ticket]bool      // a Reserve or a Lend has returned an error of the disk
}

// see compares a spend with all others that were returned for the ticket.
func (x *device) see(y api.Ticket, spend api.Spend) {
	x.t.Helper()
	if old, ok := x.spends[y]; ok && !sameSpends(old, spend) {
		x.t.Error(y, old, spend)
	}
	x.spends[y] = spend
}

// use reserves or lends a ticket, and looks at all answers.
func (x *device) use(r *rand.Rand) {
	x.t.Helper()
	now := []int{0, 1440, 2900}[r.IntN(3)]
	limit := r.IntN(2)
	left, items := x.purse.Left(limit, now), x.purse.Items()
	var i int
	var links []api.Link
	var e api.Errno
	if r.IntN(2) == 0 {
		i, e = x.purse.Reserve(limit, now, 1+r.IntN(x.s.Group.Q-1))
	} else {
		i, links, e = x.purse.Lend(limit, now, anyTicket(r), "9;0:,")
	}
	if e == api.OK {
		x.synced = x.purse.Items()
		if len(links) > 0 {
			x.see(items[i].Held.Ticket, links[len(links)-1].Spend)
		}
		if x.purse.Left(limit, now) != left-1 {
			x.t.Error("left")
		}
	} else if e != api.ErrOver {
		for _, y := range items {
			if y.Held.Limit == limit && y.Status == api.PuFree {
				x.tried[y.Held.Ticket] = true
			}
		}
	}
	x.answers()
}

func (x *device) answers() {
	x.t.Helper()
	for i, y := range x.purse.Items() {
		if spend, e := x.purse.Answer(i); e == api.OK {
			x.see(y.Held.Ticket, spend)
		}
	}
}

// reopen opens the purse after a crash, until this succeeds, and compares its items with those before.
func (x *device) reopen(before []api.Item) {
	x.t.Helper()
	for {
		x.disk.Start()
		p, e := purse.Open(x.disk, x.s, someLimits())
		if e == api.OK {
			x.purse = p
			break
		}
		if e != api.ErrDown && e != api.ErrLost {
			x.t.Fatal(e)
		}
	}
	items := x.purse.Items()
	if len(items) < len(x.synced) {
		x.t.Fatal("tickets are lost", len(items), len(x.synced))
	}
	for i, y := range items {
		if i >= len(before) {
			// The Add of this one has returned an error of the disk.
			if i > len(before) || y.Status != api.PuFree {
				x.t.Error(y)
			}
			break
		}
		if b := before[i]; encoded(b.Held) != encoded(y.Held) || !follows(b.Status, y.Status, x.tried[b.Held.Ticket]) {
			x.t.Error(b, y)
		}
	}
	x.answers()
}

// follows reports whether a ticket with one status may have the other one after a crash.
func follows(before, after int, tried bool) bool {
	switch before {
	case api.PuFree:
		return after == api.PuFree || tried && after == api.PuBurned
	case api.PuDone:
		return after == api.PuDone || after == api.PuBurned
	case api.PuReserved:
		// A Done that has returned an error of the disk may have been recorded.
		return after == api.PuBurned || after == api.PuDone
	}
	// A ticket that was burned because the Sync has returned an error was never spent.
	return after == api.PuBurned || tried && after == api.PuFree
}

// P7.16, P7.17, P7.18, T5: random calls with crashes at any moment, lost syncs, and restarts.
func TestCrashes(t *testing.T) {
	r := random()
	spent, burned := 0, 0
	for round := range 150 {
		s := []api.Setup{small(), middle(), wide()}[round%3]
		x := &device{t: t, s: s, disk: base.NewDisk(), spends: map[api.Ticket]api.Spend{}, tried: map[api.Ticket]bool{}}
		x.purse = open(t, x.disk, s, someLimits())
		for range 60 {
			switch n := r.IntN(12); {
			case n < 4:
				x.purse.Add(anyHeld(r, s, r.IntN(2), r.IntN(3)))
			case n < 8:
				x.use(r)
			case n == 8 && len(x.purse.Items()) > 0:
				x.purse.Done(r.IntN(len(x.purse.Items())))
			case n == 9 && len(x.purse.Items()) > 0:
				x.purse.Back(r.IntN(len(x.purse.Items())))
			case n == 10:
				keep := []int{r.IntN(2), r.IntN(2), r.IntN(2), r.IntN(2)}
				switch r.IntN(3) {
				case 0:
					x.disk.Lose(1 + r.IntN(2))
				case 1:
					x.disk.Arm(1+r.IntN(5), keep)
				case 2:
					x.disk.Crash(keep)
				}
			}
			if before := x.purse.Items(); x.disk.Down() {
				x.reopen(before)
			} else if r.IntN(20) == 0 {
				x.disk.Crash([]int{r.IntN(2), r.IntN(2)})
				x.reopen(before)
			}
		}
		spent += len(x.spends)
		for _, y := range x.purse.Items() {
			if y.Status == api.PuBurned {
				burned++
			}
		}
	}
	if spent < 300 || burned < 300 {
		t.Error(spent, burned)
	}
}

// P7.17: a crash at each call of the disk, with all that may survive of a few sectors: a Reserve that has returned OK survives, one that has not may.
func TestCrashAtEachCall(t *testing.T) {
	s := middle()
	l := four(s)
	for call := range 12 {
		for mask := range 16 {
			d, p := filled(t, s, someLimits(), l...)
			d.Arm(call+1, []int{mask & 1, mask >> 1 & 1, mask >> 2 & 1, mask >> 3})
			one, e1 := p.Reserve(1, 0, 5)
			e2 := p.Done(one)
			two, e3 := p.Reserve(1, 0, 7)
			e4 := p.Done(two)
			d.Crash(nil)
			d.Start()
			q := open(t, d, s, someLimits())
			items := q.Items()
			if e1 == api.OK && (len(items) != 4 || items[2].Dare != 5 || items[2].Status != api.PuBurned && items[2].Status != api.PuDone) {
				t.Error(call, mask, items)
			}
			if e3 == api.OK && (one != 2 || two != 3 || e2 != api.OK || items[2].Status != api.PuDone || items[3].Dare != 7 || items[3].Status != api.PuBurned && e4 != api.ErrDown) {
				t.Error(call, mask, items)
			}
			for i, x := range items {
				if i < 2 && x.Status != api.PuFree || x.Status == api.PuReserved {
					t.Error(call, mask, i, x)
				}
			}
		}
	}
}

// P7.18: for all limits and some times, Reserve and Lend succeed as often as Left says.
func TestLeft(t *testing.T) {
	r := random()
	for round := range 60 {
		s := setups()[round%3]
		var l []api.Held
		for range r.IntN(12) {
			l = append(l, anyHeld(r, s, r.IntN(3), r.IntN(3)))
		}
		_, p := filled(t, s, someLimits(), l...)
		for limit := range 3 {
			for _, now := range []int{0, 7, 14, 1439, 1440, 2880, 1 << 31} {
				for n := p.Left(limit, now); n >= 0; n-- {
					var e api.Errno
					if r.IntN(2) == 0 {
						_, e = p.Reserve(limit, now, 1+r.IntN(s.Group.Q-1))
					} else {
						_, _, e = p.Lend(limit, now, anyTicket(r), "9;0:,")
					}
					if (e == api.OK) != (n > 0) || e != api.OK && e != api.ErrOver || n > 0 && p.Left(limit, now) != n-1 || n == 0 && p.Left(limit, now) != 0 {
						t.Fatal(limit, now, n, e)
					}
				}
			}
		}
	}
}
