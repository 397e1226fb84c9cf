package purse_test

import (
	"fmt"
	"math/rand/v2"
	"regexp"
	"slices"
	"strconv"
	"strings"
	"testing"

	"cloak/api"
	"cloak/base"
	"cloak/purse"
	"cloak/ticket"
)

// model is a purse by the definitions, written a second time. It makes the calls of a disk that the document names, and no others.
type model struct {
	s       api.Setup
	limits  []api.Limit
	disk    *base.Disk
	journal *base.Journal
	items   []api.Item
}

var twoNumbers = regexp.MustCompile(`^2\[([24]);(0|[1-9][0-9]*);\]$`)
var threeNumbers = regexp.MustCompile(`^3\[([13]);(0|[1-9][0-9]*);(0|[1-9][0-9]*);\]$`)

// produce returns the items that a list of records produces, and reports whether it is valid.
func produce(s api.Setup, limits []api.Limit, records []string) ([]api.Item, bool) {
	var items []api.Item
	for _, x := range records {
		l := twoNumbers.FindStringSubmatch(x)
		if l == nil {
			l = threeNumbers.FindStringSubmatch(x)
		}
		if l == nil {
			h, ok := purse.Decode(strings.TrimPrefix(x, "0;"))
			if !ok || !strings.HasPrefix(x, "0;") || !isValid(s, limits, h) {
				return nil, false
			}
			for _, y := range items {
				if y.Held.Ticket == h.Ticket {
					return nil, false
				}
			}
			items = append(items, api.Item{Held: h})
			continue
		}
		i, err := strconv.Atoi(l[2])
		if err != nil || i >= len(items) {
			return nil, false
		}
		y := &items[i]
		switch l[1] {
		case "1", "3":
			dare, err := strconv.Atoi(l[3])
			if err != nil || y.Status != api.PuFree || dare < 1 || dare >= s.Group.Q {
				return nil, false
			}
			y.Status, y.Dare, y.Lent = api.PuReserved, dare, l[1] == "3"
		case "2":
			if y.Status != api.PuReserved {
				return nil, false
			}
			y.Status = api.PuDone
		case "4":
			if !y.Lent || y.Back {
				return nil, false
			}
			y.Back = true
		}
	}
	return items, len(items) <= 400
}

// burned returns items, in which those that are reserved are burned.
func burned(l []api.Item) []api.Item {
	l = slices.Clone(l)
	for i := range l {
		if l[i].Status == api.PuReserved {
			l[i].Status = api.PuBurned
		}
	}
	return l
}

func (m *model) open() api.Errno {
	j, e := base.OpenJournal(m.disk, 0)
	if e != api.OK {
		return e
	}
	items, ok := produce(m.s, m.limits, j.All())
	if !ok {
		return api.ErrForm
	}
	m.journal, m.items = j, burned(items)
	return api.OK
}

func (m *model) add(h api.Held) api.Errno {
	if !isValid(m.s, m.limits, h) {
		return api.ErrArg
	}
	for _, x := range m.items {
		if x.Held.Ticket == h.Ticket {
			return api.ErrTwice
		}
	}
	if len(m.items) >= 400 {
		return api.ErrFull
	}
	e := m.journal.Append("0;" + encoded(h))
	if e == api.OK {
		m.items = append(m.items, api.Item{Held: h})
	}
	return e
}

func (m *model) has(limit, now int) bool {
	return limit >= 0 && limit < len(m.limits) && now >= 0 && now <= 1<<31
}

// first returns the index of the first free item for a limit at a time, or -1.
func (m *model) first(limit, now int) int {
	return slices.IndexFunc(m.items, func(x api.Item) bool {
		return x.Status == api.PuFree && x.Held.Limit == limit && x.Held.Window == purse.Window(m.limits[limit], now)
	})
}

// use writes a record of the kind 1 or 3.
func (m *model) use(kind, i, dare int) api.Errno {
	if e := m.journal.Append(nums(kind, i, dare)); e != api.OK {
		return e
	}
	m.items[i].Dare = dare
	if e := m.journal.Sync(); e != api.OK {
		m.items[i].Status = api.PuBurned
		return e
	}
	m.items[i].Status, m.items[i].Lent = api.PuReserved, kind == 3
	return api.OK
}

func (m *model) reserve(limit, now, dare int) (int, api.Errno) {
	if !m.has(limit, now) || dare < 1 || dare >= m.s.Group.Q {
		return 0, api.ErrArg
	}
	i := m.first(limit, now)
	if i < 0 {
		return 0, api.ErrOver
	}
	if e := m.use(1, i, dare); e != api.OK {
		return 0, e
	}
	return i, api.OK
}

func (m *model) lend(limit, now int, next api.Ticket, terms string) (int, []api.Link, api.Errno) {
	if !m.has(limit, now) {
		return 0, nil, api.ErrArg
	}
	i := m.first(limit, now)
	if i < 0 {
		return 0, nil, api.ErrOver
	}
	h := m.items[i].Held
	_, _, ok := purse.ReadTerms(terms)
	if n := len(h.Links); !ok || n > 0 && !purse.Narrows(terms, h.Links[n-1].Terms) {
		return 0, nil, api.ErrForm
	} else if n >= 4 {
		return 0, nil, api.ErrFull
	}
	dare := ticket.LendDare(m.s, next, terms)
	if e := m.use(3, i, dare); e != api.OK {
		return 0, nil, e
	}
	x, _ := m.answer(i)
	return i, slices.Concat(h.Links, []api.Link{{Ticket: h.Ticket, Spend: x, Terms: terms}}), api.OK
}

func (m *model) answer(i int) (api.Spend, api.Errno) {
	if i < 0 || i >= len(m.items) {
		return api.Spend{}, api.ErrNone
	}
	x := m.items[i]
	if x.Status != api.PuReserved && x.Status != api.PuDone {
		return api.Spend{}, api.ErrState
	}
	spend, ok := ticket.Use(m.s, x.Held.Attrs, x.Held.Blinding, x.Dare)
	if !ok {
		panic("a valid ticket without a spend")
	}
	return spend, api.OK
}

// mark writes a record of the kind 2 or 4.
func (m *model) mark(kind, i int) api.Errno {
	if i < 0 || i >= len(m.items) {
		return api.ErrNone
	}
	x := &m.items[i]
	if kind == 2 && x.Status != api.PuReserved || kind == 4 && (!x.Lent || x.Back) {
		return api.ErrState
	}
	e := m.journal.Append(nums(kind, i))
	if e == api.OK && kind == 2 {
		x.Status = api.PuDone
	} else if e == api.OK {
		x.Back = true
	}
	return e
}

// views returns what Backup, Recalled, Items and Left at some times return.
func (m *model) views(times []int) string {
	var backup, recalled, left strings.Builder
	for _, x := range m.items {
		if x.Status == api.PuFree {
			backup.WriteString(text(encoded(x.Held)))
		}
		if x.Back {
			fmt.Fprint(&recalled, x.Held.Ticket)
		}
	}
	for limit := -1; limit <= len(m.limits); limit++ {
		for _, now := range times {
			n := 0
			for _, x := range m.items {
				if m.has(limit, now) && x.Status == api.PuFree && x.Held.Limit == limit && x.Held.Window == purse.Window(m.limits[limit], now) {
					n++
				}
			}
			fmt.Fprint(&left, n, " ")
		}
	}
	return fmt.Sprint(backup.String(), "\n", recalled.String(), "\n", itemsText(m.items), left.String())
}

// viewsOf returns the same of a purse.
func viewsOf(p *purse.Purse, limits int, times []int) string {
	var recalled, left strings.Builder
	for _, x := range p.Recalled() {
		fmt.Fprint(&recalled, x)
	}
	for limit := -1; limit <= limits; limit++ {
		for _, now := range times {
			fmt.Fprint(&left, p.Left(limit, now), " ")
		}
	}
	return fmt.Sprint(p.Backup(), "\n", recalled.String(), "\n", itemsText(p.Items()), left.String())
}

// pair is a purse, and its model with a disk of its own.
type pair struct {
	m     *model
	d     *base.Disk
	p     *purse.Purse
	times []int
	ok    map[string]int // how often a call has had which result
}

func newPair(t *testing.T, s api.Setup, limits []api.Limit) *pair {
	t.Helper()
	x := &pair{m: &model{s: s, limits: limits, disk: base.NewDisk()}, d: base.NewDisk(), times: []int{-1, 0, 6, 7, 1440, 2900, 1 << 31, 1<<31 + 1}, ok: map[string]int{}}
	if !x.open() {
		t.Fatal("open")
	}
	return x
}

// open opens the purse and its model, and reports whether the results are equal.
func (x *pair) open() bool {
	p, e := purse.Open(x.d, x.m.s, x.m.limits)
	f := x.m.open()
	x.ok[fmt.Sprint("open ", e)]++
	if e == api.OK && p != nil {
		x.p = p
	}
	return e == f && (p == nil) == (e != api.OK)
}

// held returns a ticket to be added, which need not be valid, or new.
func (x *pair) held(r *rand.Rand) api.Held {
	h := anyHeld(r, x.m.s, r.IntN(3), r.IntN(3))
	h.Links = anyLinks(r, r.IntN(10)/2)
	if l := x.m.items; r.IntN(8) == 0 && len(l) > 0 {
		h = l[r.IntN(len(l))].Held
		h.Limit = r.IntN(3)
	}
	if r.IntN(10) == 0 {
		h.Limit = 3
	}
	return h
}

// call makes one call of the purse and of the model, and reports whether the results are equal.
func (x *pair) call(r *rand.Rand) (string, bool) {
	limit, now, i := r.IntN(3), []int{0, 1, 7, 14, 1440, 2900}[r.IntN(6)], r.IntN(len(x.m.items)+2)-1
	switch r.IntN(4) {
	case 0:
		i = slices.IndexFunc(x.m.items, func(x api.Item) bool { return x.Status == api.PuReserved })
	case 1:
		i = slices.IndexFunc(x.m.items, func(x api.Item) bool { return x.Lent && !x.Back })
	}
	if r.IntN(20) == 0 {
		limit, now = r.IntN(6)-2, x.times[r.IntN(len(x.times))]
	}
	var e, f api.Errno
	same, name := true, ""
	switch n := r.IntN(73); {
	case n < 24:
		name = "add"
		h := x.held(r)
		e, f = x.p.Add(h), x.m.add(h)
	case n < 36:
		name = "reserve"
		dare, a, b := 1+r.IntN(x.m.s.Group.Q-1), 0, 0
		if r.IntN(10) == 0 {
			dare = []int{0, -1, x.m.s.Group.Q}[r.IntN(3)]
		}
		a, e = x.p.Reserve(limit, now, dare)
		b, f = x.m.reserve(limit, now, dare)
		same = a == b
	case n < 48:
		name = "lend"
		next, terms := anyTicket(r), []string{"x", "100;0:,", "100;0:,", "90;0:,", "90;4:pool,", "90;4:pool,", "100;4:pool,", "101;0:,"}[r.IntN(8)]
		a, l, e1 := x.p.Lend(limit, now, next, terms)
		b, k, f1 := x.m.lend(limit, now, next, terms)
		e, f, same = e1, f1, a == b && linksText(l) == linksText(k)
	case n < 56:
		name = "answer"
		a, e1 := x.p.Answer(i)
		b, f1 := x.m.answer(i)
		e, f, same = e1, f1, sameSpends(a, b)
	case n < 64:
		name = "done"
		e, f = x.p.Done(i), x.m.mark(2, i)
	case n < 72:
		name = "back"
		e, f = x.p.Back(i), x.m.mark(4, i)
	default:
		name = "open"
		return name, x.open()
	}
	name = fmt.Sprint(name, " ", e)
	x.ok[name]++
	return name, same && e == f
}

// trouble lets something happen to both disks.
func (x *pair) trouble(r *rand.Rand) {
	keep := []int{r.IntN(2), r.IntN(2), r.IntN(2)}
	n := 1 + r.IntN(6)
	for _, d := range []*base.Disk{x.d, x.m.disk} {
		switch n {
		case 1:
			d.Lose(1)
		case 2, 3:
			d.Arm(n+2*keep[0], keep)
		case 4:
			d.Arm(1, keep)
		default:
			d.Crash(keep)
		}
	}
}

// up starts both disks if they are down, and opens the purses until there is no trouble, and reports whether both disks are equal.
func (x *pair) up() bool {
	if x.d.Down() != x.m.disk.Down() {
		return false
	}
	if !x.d.Down() {
		return true
	}
	for range 5 {
		x.d.Start()
		x.m.disk.Start()
		if !x.open() || x.d.Down() != x.m.disk.Down() {
			return false
		}
		if !x.d.Down() {
			return true
		}
	}
	return false
}

// sameDisks reports whether both disks have the same file.
func (x *pair) sameDisks() bool {
	a, e := x.d.Read(0, 0, 1<<24)
	b, f := x.m.disk.Read(0, 0, 1<<24)
	return a == b && e == f && x.d.Size(0) == x.m.disk.Size(0)
}

// P7.5 to P7.12: random calls, with crashes, lost syncs and restarts, against the model; also the disks are always equal, and go down at the same calls.
func TestModel(t *testing.T) {
	r := random()
	results := map[string]int{}
	for round := range 90 {
		x := newPair(t, []api.Setup{small(), middle(), wide()}[round%3], someLimits())
		x.ok = results
		for step := range 120 {
			if round%4 > 0 && r.IntN(25) == 0 {
				x.trouble(r)
			}
			// A purse whose disk is down is still called now and then.
			if r.IntN(3) > 0 && !x.up() {
				t.Fatal(round, step, "up")
			}
			if name, ok := x.call(r); !ok {
				t.Fatal(round, step, name)
			}
			if a, b := viewsOf(x.p, 3, x.times), x.m.views(x.times); a != b {
				t.Fatal(round, step, a, b)
			}
			if !x.sameDisks() {
				t.Fatal(round, step, "disks")
			}
		}
	}
	for _, name := range []string{"open OK", "open ErrLost", "open ErrDown", "add OK", "add ErrArg", "add ErrTwice", "add ErrDown", "add ErrState", "reserve OK", "reserve ErrArg", "reserve ErrOver", "reserve ErrDown", "reserve ErrLost", "reserve ErrState", "lend OK", "lend ErrArg", "lend ErrOver", "lend ErrForm", "lend ErrFull", "lend ErrDown", "lend ErrLost", "lend ErrState", "answer OK", "answer ErrNone", "answer ErrState", "done OK", "done ErrNone", "done ErrState", "done ErrDown", "back OK", "back ErrNone", "back ErrState", "back ErrDown"} {
		if results[numbered(name)] == 0 {
			t.Error(name, results)
		}
	}
}

// numbered replaces the name of an error by its number.
func numbered(s string) string {
	call, e, _ := strings.Cut(s, " ")
	n := map[string]api.Errno{"OK": api.OK, "ErrArg": api.ErrArg, "ErrForm": api.ErrForm, "ErrNone": api.ErrNone, "ErrTwice": api.ErrTwice, "ErrFull": api.ErrFull, "ErrState": api.ErrState, "ErrDown": api.ErrDown, "ErrLost": api.ErrLost, "ErrOver": api.ErrOver}
	return fmt.Sprint(call, " ", n[e])
}

// recordsOf returns the records of a purse after random calls.
func recordsOf(t *testing.T, r *rand.Rand, s api.Setup, calls int) []string {
	t.Helper()
	x := newPair(t, s, someLimits())
	for range calls {
		if name, ok := x.call(r); !ok {
			t.Fatal(name)
		}
	}
	return x.m.journal.All()
}

// spoiled returns a list of records with one change.
func spoiled(r *rand.Rand, l []string) []string {
	l = slices.Clone(l)
	i, k := r.IntN(len(l)), r.IntN(len(l))
	switch r.IntN(7) {
	case 0:
		l = slices.Delete(l, i, i+1)
	case 1:
		l = slices.Insert(l, k, l[i])
	case 2:
		l[i], l[k] = l[k], l[i]
	case 3:
		l[i] = nums(r.IntN(6), r.IntN(6)-1, r.IntN(13)-1)
	case 4:
		l[i] = nums(r.IntN(6), r.IntN(6)-1)
	case 5:
		if s := l[i]; s != "" {
			at := r.IntN(len(s))
			l[i] = s[:at] + string("0123456789;[]x"[r.IntN(14)]) + s[at+1:]
		}
	case 6:
		l[i] += []string{"x", ";", "0;", "0[]"}[r.IntN(4)]
	}
	return l
}

// P7.5: any lists of records, against the definition.
func TestOpenRecords(t *testing.T) {
	r := random()
	opened := 0
	for i := range 600 {
		s := []api.Setup{small(), middle(), wide()}[i%3]
		l := append(recordsOf(t, r, s, 25), "x")
		for range 1 + i%3 {
			l = spoiled(r, l)
		}
		l = slices.DeleteFunc(l, func(x string) bool { return x == "x" })
		items, ok := produce(s, someLimits(), l)
		d := journalOf(t, l...)
		before := content(t, d)
		p, e := purse.Open(d, s, someLimits())
		if !ok && (e != api.ErrForm || p != nil) {
			t.Fatal(l, p, e)
		}
		if ok && (e != api.OK || itemsText(p.Items()) != itemsText(burned(items))) {
			t.Fatal(l, e)
		}
		if content(t, d) != before {
			t.Fatal(l)
		}
		if ok {
			opened++
		}
	}
	if opened < 50 || opened > 500 {
		t.Error(opened)
	}
}
