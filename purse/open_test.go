package purse_test

import (
	"slices"
	"testing"

	"cloak/api"
	"cloak/base"
	"cloak/purse"
)

// P7.5: arguments with which no purse is opened; the disk is left alone then.
func TestOpenArguments(t *testing.T) {
	s := middle()
	refused := func(s api.Setup, limits []api.Limit) {
		t.Helper()
		d := base.NewDisk()
		d.Arm(1, nil)
		if p, e := purse.Open(d, s, limits); e != api.ErrArg || p != nil || d.Down() {
			t.Error(s, limits, p, e)
		}
	}
	for _, not := range notSetups() {
		refused(not, someLimits())
	}
	refused(s, nil)
	refused(s, []api.Limit{})
	refused(s, slices.Repeat(someLimits(), 6)[:17])
	for _, l := range []api.Limit{{}, {Count: 4097}, {Count: 1, Length: -1}, {Count: 1, Length: 1<<31 + 1}, {Count: 1, Gate: -2}, {Count: 1, Gate: 24}} {
		refused(s, append(someLimits(), l))
		refused(s, append([]api.Limit{l}, someLimits()...))
	}
	for _, s := range setups() {
		for _, n := range []int{1, 16} {
			p := open(t, base.NewDisk(), s, slices.Repeat(someLimits(), 6)[:n])
			if len(p.Items()) > 0 || p.Left(0, 0) != 0 || p.Backup() != "" || len(p.Recalled()) > 0 {
				t.Error(s, n)
			}
		}
	}
}

// P7.5: the errors of the journal, which come before that of its records; the error of the arguments comes before both.
func TestOpenErrors(t *testing.T) {
	bad := func() *base.Disk { return journalOf(t, "x") }
	try := func(d *base.Disk, want api.Errno) {
		t.Helper()
		if p, e := purse.Open(d, middle(), someLimits()); e != want || p != nil {
			t.Error(p, e, want)
		}
	}
	d := bad()
	try(d, api.ErrForm)
	d.Lose(1)
	try(d, api.ErrLost)
	d.Arm(1, nil)
	try(d, api.ErrDown)
	try(d, api.ErrDown)
	if p, e := purse.Open(d, middle(), nil); e != api.ErrArg || p != nil {
		t.Error(p, e)
	}
	d.Start()
	try(d, api.ErrForm)
	// Records on another file do not matter.
	d = base.NewDisk()
	d.Write(1, 0, "2:xx,360;")
	open(t, d, middle(), someLimits())
}

// P7.5: Open makes the calls of OpenJournal, and no others.
func TestOpenCalls(t *testing.T) {
	h := anyHeld(random(), middle(), 0, 0)
	record := "0;" + encoded(h)
	for _, tail := range []string{"", "5:half"} {
		calls := 1 // Sync
		if tail != "" {
			calls = 2 // Truncate
		}
		d := journalOf(t, record, nums(1, 0, 5))
		whole := content(t, d)
		d.Write(0, len(whole), tail)
		d.Arm(calls+1, nil)
		p := open(t, d, middle(), someLimits())
		if content(t, d) != whole || p.Items()[0].Status != api.PuBurned || p.Items()[0].Dare != 5 {
			t.Error(tail, p.Items())
		}
		if e := d.Write(1, 0, "x"); e != api.ErrDown {
			t.Error(tail, e)
		}
	}
}

// P7.5: each status that records lead to; lists that are not valid.
func TestOpenItems(t *testing.T) {
	r, s := random(), middle()
	a, b := anyHeld(r, s, 0, 2), anyHeld(r, s, 2, 7)
	b.Links = anyLinks(r, 4)
	adds := []string{"0;" + encoded(a), "0;" + encoded(b)}
	for i, c := range []struct {
		records []string
		want    api.Item // of the second ticket
	}{
		{nil, api.Item{}},
		{[]string{nums(1, 1, 1)}, api.Item{Status: api.PuBurned, Dare: 1}},
		{[]string{nums(1, 1, 1012)}, api.Item{Status: api.PuBurned, Dare: 1012}},
		{[]string{nums(1, 1, 5), nums(2, 1)}, api.Item{Status: api.PuDone, Dare: 5}},
		{[]string{nums(3, 1, 6)}, api.Item{Status: api.PuBurned, Dare: 6, Lent: true}},
		{[]string{nums(3, 1, 6), nums(2, 1)}, api.Item{Status: api.PuDone, Dare: 6, Lent: true}},
		{[]string{nums(3, 1, 6), nums(4, 1)}, api.Item{Status: api.PuBurned, Dare: 6, Lent: true, Back: true}},
		{[]string{nums(3, 1, 6), nums(4, 1), nums(1, 0, 9), nums(2, 1)}, api.Item{Status: api.PuDone, Dare: 6, Lent: true, Back: true}},
	} {
		p := open(t, journalOf(t, append(slices.Clone(adds), c.records...)...), s, someLimits())
		c.want.Held = b
		if l := p.Items(); len(l) != 2 || itemsText(l[1:]) != itemsText([]api.Item{c.want}) || encoded(l[0].Held) != encoded(a) {
			t.Error(i, l)
		}
	}
	other := a
	other.Ticket.R = (a.Ticket.R + 1) % 1013
	open(t, journalOf(t, adds[0], "0;"+encoded(other)), s, someLimits())
	notValid := a
	notValid.Blinding.U = 0
	for i, l := range [][]string{
		{""}, {"0"}, {"0;"}, {encoded(a)}, {"0;" + encoded(a) + "x"}, {"1;" + encoded(a)}, {"00;" + encoded(a)}, {" 0;" + encoded(a)}, {"0;" + encoded(notValid)}, {"0;" + encoded(api.Held{})}, {"1[0;]" + encoded(a)},
		{adds[0], adds[0]}, {adds[0], adds[1], adds[0]}, {nums(1, 0, 5), adds[0]},
		{adds[0], nums(1, 0, 0)}, {adds[0], nums(1, 0, -1)}, {adds[0], nums(1, 0, 1013)}, {adds[0], nums(1, 1, 5)}, {adds[0], nums(1, -1, 5)}, {adds[0], nums(1, 0)}, {adds[0], nums(1, 0, 5, 0)}, {adds[0], nums(1)}, {adds[0], nums()}, {adds[0], nums(1, 0, 5) + "x"}, {adds[0], nums(1, 0, 5) + nums(2, 0)}, {adds[0], "3[1;0;05;]"}, {adds[0], "3[1;0;5;"},
		{adds[0], nums(1, 0, 5), nums(1, 0, 5)}, {adds[0], nums(1, 0, 5), nums(3, 0, 5)}, {adds[0], nums(1, 0, 5), nums(4, 0)},
		{adds[0], nums(2, 0)}, {adds[0], nums(1, 0, 5), nums(2, 0), nums(2, 0)}, {adds[0], nums(1, 0, 5), nums(2, 0, 5)}, {adds[0], nums(1, 0, 5), nums(2)}, {adds[0], nums(1, 0, 5), nums(2, 1)}, {adds[0], nums(1, 0, 5), nums(2, -1)}, {adds[0], nums(1, 0, 5), nums(2, 0), nums(1, 0, 5)},
		{adds[0], nums(3, 0, 0)}, {adds[0], nums(3, 0, 1013)}, {adds[0], nums(3, 1, 5)}, {adds[0], nums(3, 0)}, {adds[0], nums(3, 0, 5), nums(3, 0, 5)}, {adds[0], nums(3, 0, 5), nums(4, 0), nums(4, 0)}, {adds[0], nums(3, 0, 5), nums(4, 1)}, {adds[0], nums(3, 0, 5), nums(4, -1)}, {adds[0], nums(3, 0, 5), nums(4, 0, 5)}, {adds[0], nums(4, 0)},
		{adds[0], nums(5, 0)}, {adds[0], nums(5, 0, 5)}, {adds[0], nums(-1, 0)}, {adds[0], nums(0, 0, 5)}, {nums(0)}, {nums(0, 0)}, {nums(1, 0, 5)}, {nums(2, 0)}, {nums(3, 0, 5)}, {nums(4, 0)},
	} {
		if p, e := purse.Open(journalOf(t, l...), s, someLimits()); e != api.ErrForm || p != nil {
			t.Error(i, l, p, e)
		}
	}
	// The records of one purse need not be those of another setup, or with fewer limits.
	for _, x := range []func() (*purse.Purse, api.Errno){
		func() (*purse.Purse, api.Errno) { return purse.Open(journalOf(t, adds...), large(), someLimits()) },
		func() (*purse.Purse, api.Errno) { return purse.Open(journalOf(t, adds...), s, someLimits()[:2]) },
	} {
		if p, e := x(); e != api.ErrForm || p != nil {
			t.Error(p, e)
		}
	}
}

// P7.5, P7.6: at most MaxHeld tickets.
func TestFull(t *testing.T) {
	r, s := random(), small()
	var records []string
	seen := map[api.Ticket]bool{}
	for len(records) < api.MaxHeld+1 {
		h := anyHeld(r, s, 0, 0)
		if !seen[h.Ticket] {
			seen[h.Ticket] = true
			records = append(records, "0;"+encoded(h))
		}
	}
	if p, e := purse.Open(journalOf(t, records...), s, someLimits()); e != api.ErrForm || p != nil {
		t.Error(p, e)
	}
	d := journalOf(t, records[:api.MaxHeld]...)
	p := open(t, d, s, someLimits())
	last, _ := purse.Decode(records[api.MaxHeld][2:])
	again, _ := purse.Decode(records[7][2:])
	notValid := again
	notValid.Window = -1
	if len(p.Items()) != api.MaxHeld || p.Left(0, 5) != api.MaxHeld || p.Add(last) != api.ErrFull || p.Add(again) != api.ErrTwice || p.Add(notValid) != api.ErrArg {
		t.Error(len(p.Items()))
	}
	// A ticket that was used still counts.
	if _, e := p.Reserve(0, 0, 5); e != api.OK || p.Add(last) != api.ErrFull {
		t.Error(e)
	}
	p = open(t, journalOf(t, records[:api.MaxHeld-1]...), s, someLimits())
	if e := p.Add(last); e != api.OK || p.Add(again) != api.ErrTwice || len(p.Items()) != api.MaxHeld {
		t.Error(e)
	}
}

// P7.5, P7.6, P7.7: a purse of as many and as long tickets as there may be has room in its journal for all that can happen to them.
func TestLongest(t *testing.T) {
	r := random()
	s := large()
	for len(s.Bases) < api.MaxBases {
		s.Bases = append(s.Bases, anyElement(r, s))
	}
	link := api.Link{Ticket: api.Ticket{Mark: ints[0], First: ints[0], Z: ints[0], A: ints[0], B: ints[0], R: ints[0]}, Spend: api.Spend{Dare: ints[0], Answers: slices.Repeat(ints[:1], 7)}, Terms: anyText(r, 200)}
	d := base.NewDisk()
	limits := []api.Limit{{Count: 1, Length: 1}}
	p := open(t, d, s, limits)
	template := anyHeld(r, s, 0, 1<<31)
	template.Links = slices.Repeat([]api.Link{link}, 3)
	template.Links = append(template.Links, link)
	for i := range api.MaxHeld {
		template.Ticket.R = i
		if e := p.Add(template); e != api.OK {
			t.Fatal(i, e)
		}
	}
	for i := range api.MaxHeld {
		if k, e := p.Reserve(0, 1<<31, s.Group.Q-1); k != i || e != api.OK || p.Done(i) != api.OK {
			t.Fatal(i, k, e)
		}
	}
	if p = open(t, d, s, limits); len(p.Items()) != api.MaxHeld || p.Items()[399].Status != api.PuDone {
		t.Error(len(p.Items()))
	}
}
