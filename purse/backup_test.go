package purse_test

import (
	"math"
	"slices"
	"testing"

	"cloak/api"
	"cloak/base"
	"cloak/purse"
)

// P7.12: for tickets of each status.
func TestBackup(t *testing.T) {
	r, s := random(), middle()
	var l []api.Held
	for i := range 6 {
		h := anyHeld(r, s, i%2, 0)
		h.Links = anyLinks(r, i%5)
		for k := range h.Links {
			h.Links[k].Terms = "9;0:,"
		}
		l = append(l, h)
	}
	d, p := filled(t, s, someLimits(), l...)
	check := func(free ...int) {
		t.Helper()
		want := ""
		for _, i := range free {
			want += text(encoded(l[i]))
		}
		if got := p.Backup(); got != want {
			t.Error(got, want)
		}
	}
	check(0, 1, 2, 3, 4, 5)
	p.Reserve(1, 0, 5)
	check(0, 2, 3, 4, 5)
	p.Done(1)
	check(0, 2, 3, 4, 5)
	p.Lend(0, 0, api.Ticket{}, "9;0:,")
	check(2, 3, 4, 5)
	p.Back(0)
	check(2, 3, 4, 5)
	d.Lose(1)
	p.Reserve(1, 0, 5)
	check(2, 4, 5)
	p = restart(t, d, s, someLimits(), 1)
	check(2, 4, 5)
	_, p = filled(t, s, someLimits())
	check()
}

// backupOf returns a backup of tickets.
func backupOf(l ...api.Held) string {
	s := ""
	for _, h := range l {
		s += text(encoded(h))
	}
	return s
}

// P7.13: which tickets are kept. The windows of the limit 1 all begin at 0; those of the limit 0 that begin after MaxTime begin after each time.
func TestRestore(t *testing.T) {
	r, s := random(), middle()
	var l []api.Held
	for _, x := range [][2]int{{0, 0}, {0, 2}, {0, 3}, {1, 0}, {1, 7}, {2, 1}, {2, 500}, {0, 1491308}, {0, 1491309}, {0, 1 << 31}} {
		l = append(l, anyHeld(r, s, x[0], x[1]))
	}
	l[2].Links = anyLinks(r, 4)
	for i, c := range []struct {
		time int
		kept []int
	}{
		{0, []int{1, 2, 5, 6, 7, 8, 9}}, {6, []int{1, 2, 5, 6, 7, 8, 9}}, {7, []int{1, 2, 6, 7, 8, 9}}, {2879, []int{1, 2, 6, 7, 8, 9}}, {2880, []int{2, 6, 7, 8, 9}}, {3000, []int{2, 6, 7, 8, 9}}, {3499, []int{2, 6, 7, 8, 9}}, {3500, []int{2, 7, 8, 9}}, {4320, []int{7, 8, 9}}, {2147483519, []int{7, 8, 9}}, {2147483520, []int{8, 9}}, {1 << 31, []int{8, 9}},
	} {
		d := base.NewDisk()
		p, e := purse.Restore(d, s, someLimits(), backupOf(l...), c.time)
		if e != api.OK {
			t.Fatal(i, e)
		}
		var want []api.Item
		for _, k := range c.kept {
			want = append(want, api.Item{Held: l[k]})
		}
		if itemsText(p.Items()) != itemsText(want) {
			t.Error(i, p.Items())
		}
		// Everything is synced.
		if q := restart(t, d, s, someLimits(), 0); itemsText(q.Items()) != itemsText(want) {
			t.Error(i, q.Items())
		}
	}
	for _, s := range setups() {
		d := base.NewDisk()
		d.Arm(3, nil)
		if p, e := purse.Restore(d, s, someLimits(), "", 5); e != api.OK || len(p.Items()) > 0 || p.Backup() != "" {
			t.Error(s, e)
		}
		// Two calls were made, to open the journal, and to sync it.
		if d.Write(1, 0, "x") != api.ErrDown {
			t.Error(s)
		}
	}
}

// P7.13: errors, in their order.
func TestRestoreErrors(t *testing.T) {
	r, s := random(), middle()
	l := []api.Held{anyHeld(r, s, 0, 2), anyHeld(r, s, 0, 3), anyHeld(r, s, 1, 0)}
	good := backupOf(l...)
	notValid := l[0]
	notValid.Blinding.U = 0
	five := l[0]
	five.Links = make([]api.Link, 5)
	fresh := base.NewDisk
	full := func() *base.Disk { d, _ := filled(t, s, someLimits(), l[2]); return d }
	broken := func() *base.Disk { return journalOf(t, "x") }
	lose := func() *base.Disk { d := full(); d.Lose(1); return d }
	arm := func(n int) func() *base.Disk { return func() *base.Disk { d := fresh(); d.Arm(n, nil); return d } }
	down := func() *base.Disk { d := fresh(); d.Crash(nil); return d }
	for i, c := range []struct {
		disk   func() *base.Disk
		limits []api.Limit
		text   string
		time   int
		want   api.Errno
	}{
		{fresh, nil, good + "x", -1, api.ErrForm}, {down, nil, "x" + good, -1, api.ErrForm}, {fresh, nil, good + "0:,", -1, api.ErrForm}, {fresh, nil, "1:x,", 0, api.ErrForm}, {fresh, nil, encoded(l[0]), 0, api.ErrForm}, {fresh, nil, good[:len(good)-1], 0, api.ErrForm}, {fresh, nil, backupOf(five), 0, api.ErrForm}, {fresh, nil, backupOf(notValid) + "1:x,", 0, api.ErrForm}, {fresh, nil, text(encoded(l[0]) + "x"), 0, api.ErrForm}, {fresh, nil, text(good), 0, api.ErrForm}, {fresh, nil, " ", 0, api.ErrForm},
		{down, someLimits(), backupOf(notValid), 0, api.ErrArg}, {down, someLimits(), backupOf(l[0], notValid), 1 << 31, api.ErrArg}, {down, someLimits(), good, -1, api.ErrArg}, {down, someLimits(), good, 1<<31 + 1, api.ErrArg}, {down, someLimits(), "", math.MinInt, api.ErrArg}, {down, someLimits()[:1], good, 0, api.ErrArg}, {down, nil, good, 0, api.ErrArg}, {full, nil, "", 0, api.ErrArg}, {full, make([]api.Limit, 3), good, 0, api.ErrArg},
		{down, someLimits(), good, 0, api.ErrDown}, {lose, someLimits(), good, 0, api.ErrLost}, {broken, someLimits(), good, 0, api.ErrForm}, {arm(1), someLimits(), good, 0, api.ErrDown},
		{full, someLimits(), good, 0, api.ErrState}, {full, someLimits(), backupOf(l[0], l[0]), 0, api.ErrState}, {full, someLimits(), "", 1 << 31, api.ErrState},
		{arm(4), someLimits(), backupOf(l[0], l[1], l[0]), 0, api.ErrTwice}, {fresh, someLimits(), good + good, 0, api.ErrTwice}, {fresh, someLimits(), good + good, 2880, api.ErrTwice}, {fresh, someLimits(), good + good, 4320, api.OK},
		{arm(2), someLimits(), good, 0, api.ErrDown}, {arm(3), someLimits(), good, 0, api.ErrDown}, {arm(4), someLimits(), good, 0, api.ErrDown}, {arm(5), someLimits(), good, 0, api.OK}, {arm(2), someLimits(), "", 0, api.ErrDown}, {arm(3), someLimits(), "", 0, api.OK},
	} {
		p, e := purse.Restore(c.disk(), s, c.limits, c.text, c.time)
		if e != c.want || (p == nil) != (e != api.OK) {
			t.Error(i, p, e)
		}
	}
	for _, not := range notSetups() {
		if p, e := purse.Restore(fresh(), not, someLimits(), "", 0); e != api.ErrArg || p != nil {
			t.Error(not, e)
		}
	}
	// What was added before an error remains there.
	d := fresh()
	if _, e := purse.Restore(d, s, someLimits(), backupOf(l[1], l[0], l[1]), 0); e != api.ErrTwice || len(open(t, d, s, someLimits()).Items()) != 2 {
		t.Error(e)
	}
	d = full()
	before := content(t, d)
	if _, e := purse.Restore(d, s, someLimits(), good, 0); e != api.ErrState || content(t, d) != before {
		t.Error(e)
	}
}

// P7.13: more tickets than a purse may have.
func TestRestoreFull(t *testing.T) {
	r, s := random(), middle()
	var l []api.Held
	h := anyHeld(r, s, 2, 5)
	for i := range api.MaxHeld + 1 {
		h.Ticket.R = i
		l = append(l, h)
	}
	if p, e := purse.Restore(base.NewDisk(), s, someLimits(), backupOf(l...), 34); e != api.ErrFull || p != nil {
		t.Error(p, e)
	}
	if p, e := purse.Restore(base.NewDisk(), s, someLimits(), backupOf(l...), 35); e != api.OK || len(p.Items()) != 0 {
		t.Error(p, e)
	}
	if p, e := purse.Restore(base.NewDisk(), s, someLimits(), backupOf(l[1:]...), 0); e != api.OK || len(p.Items()) != api.MaxHeld {
		t.Error(p, e)
	}
	// A ticket that is there already is found before that.
	if p, e := purse.Restore(base.NewDisk(), s, someLimits(), backupOf(append(l[:api.MaxHeld:api.MaxHeld], l[3])...), 0); e != api.ErrTwice || p != nil {
		t.Error(p, e)
	}
}

// P7.14
func TestRemainder(t *testing.T) {
	r := random()
	y := make([]api.Ticket, 6)
	for i := range y {
		y[i] = anyTicket(r)
	}
	held := func(limit, window, i int) api.Held {
		return api.Held{Limit: limit, Window: window, Attrs: anyInts(r, 2), Ticket: y[i]}
	}
	for i, c := range []struct {
		held []api.Held
		seen []api.Ticket
		want []api.Left
	}{
		{nil, nil, nil}, {nil, y, nil}, {[]api.Held{held(0, 0, 0)}, nil, []api.Left{{Count: 1}}}, {[]api.Held{held(0, 0, 0)}, y[:1], nil}, {[]api.Held{held(0, 0, 0)}, y[1:], []api.Left{{Count: 1}}},
		{[]api.Held{held(1, 0, 0), held(0, 3, 1), held(0, 2, 2), held(1, 0, 3), held(1, 0, 3)}, y[1:2], []api.Left{{Window: 2, Count: 1}, {Limit: 1, Count: 2}}},
		// Of equal tickets only the first one counts, also if it is for another limit or window.
		{[]api.Held{held(1, 5, 0), held(0, 3, 0), held(0, 3, 1)}, nil, []api.Left{{Window: 3, Count: 1}, {Limit: 1, Window: 5, Count: 1}}},
		{[]api.Held{held(1, 5, 0), held(0, 3, 0), held(0, 3, 1)}, []api.Ticket{y[0], y[0], y[5]}, []api.Left{{Window: 3, Count: 1}}},
		// Any numbers.
		{[]api.Held{held(math.MaxInt, math.MinInt, 0), held(math.MinInt, math.MaxInt, 1), held(math.MinInt, math.MinInt, 2), held(-1, 0, 3), held(math.MaxInt, -1, 4), held(math.MinInt, math.MaxInt, 5)}, nil, []api.Left{{Limit: math.MinInt, Window: math.MinInt, Count: 1}, {Limit: math.MinInt, Window: math.MaxInt, Count: 2}, {Limit: -1, Window: 0, Count: 1}, {Limit: math.MaxInt, Window: math.MinInt, Count: 1}, {Limit: math.MaxInt, Window: -1, Count: 1}}},
	} {
		if got := purse.Remainder(c.held, c.seen); !slices.Equal(got, c.want) {
			t.Error(i, got)
		}
	}
}

// P7.14, P7.21: random tickets against the definition; what remains, and what was seen of them, is no more than what was held.
func TestRemainders(t *testing.T) {
	r := random()
	for range 300 {
		var tickets []api.Ticket
		for range 1 + r.IntN(8) {
			tickets = append(tickets, anyTicket(r))
		}
		var held []api.Held
		for range r.IntN(12) {
			held = append(held, api.Held{Limit: r.IntN(3), Window: r.IntN(3), Ticket: tickets[r.IntN(len(tickets))]})
		}
		var seen []api.Ticket
		for range r.IntN(5) {
			seen = append(seen, tickets[r.IntN(len(tickets))])
		}
		var want []api.Left
		remain, used := 0, 0
		for limit := range 3 {
			for window := range 3 {
				n := 0
				for i, h := range held {
					first := slices.IndexFunc(held, func(x api.Held) bool { return x.Ticket == h.Ticket }) == i
					if first && h.Limit == limit && h.Window == window {
						if slices.Contains(seen, h.Ticket) {
							used++
						} else {
							n++
						}
					}
				}
				if n > 0 {
					want = append(want, api.Left{Limit: limit, Window: window, Count: n})
				}
				remain += n
			}
		}
		if got := purse.Remainder(held, seen); !slices.Equal(got, want) || remain+used > len(held) {
			t.Error(held, seen, got)
		}
	}
}

// P7.20: an old purse that is used with times up to that of the restoration, before and after it, and the one that was restored from a backup spend no ticket twice.
func TestOldAndRestored(t *testing.T) {
	r := random()
	olds, news := 0, 0
	for round := range 100 {
		s := setups()[round%3]
		limits := []api.Limit{{Count: 1, Length: 10}, {Count: 1}, {Count: 1, Length: 1}}
		var l []api.Held
		for range 14 {
			l = append(l, anyHeld(r, s, r.IntN(3), r.IntN(6)))
		}
		_, old := filled(t, s, limits, l...)
		time := r.IntN(60)
		use := func(p *purse.Purse, last, times int) {
			for range times {
				if r.IntN(2) == 0 {
					p.Reserve(r.IntN(3), r.IntN(last+1), 1+r.IntN(s.Group.Q-1))
				} else {
					p.Lend(r.IntN(3), r.IntN(last+1), anyTicket(r), "9;0:,")
				}
			}
		}
		use(old, time, 5)
		backup := old.Backup()
		use(old, time, 20)
		restored, e := purse.Restore(base.NewDisk(), s, limits, backup, time)
		if e != api.OK {
			t.Fatal(e)
		}
		use(restored, 80, 60)
		use(old, time, 20)
		spent := map[api.Ticket]bool{}
		for _, x := range old.Items() {
			if x.Status != api.PuFree {
				spent[x.Held.Ticket] = true
				olds++
			}
		}
		for _, x := range restored.Items() {
			if x.Status != api.PuFree {
				news++
				if spent[x.Held.Ticket] {
					t.Error(time, x)
				}
			}
		}
	}
	if olds < 200 || news < 100 {
		t.Error(olds, news)
	}
}
