package gate_test

import (
	"fmt"
	"math/rand/v2"
	"slices"
	"strings"
	"testing"

	"cloak/api"
	"cloak/base"
	"cloak/gate"
	"cloak/show"
	"cloak/ticket"
)

// model is a gate by the definitions, written a second time. It makes the calls of a disk that the document names, and no others.
type model struct {
	s              api.Setup
	number, secret int
	doors          []api.Door
	disk           *base.Disk
	journal        *base.Journal
	entries        []api.Entry
}

func (m *model) open() api.Errno {
	j, e := base.OpenJournal(m.disk, 1)
	if e != api.OK {
		return e
	}
	var l []api.Entry
	for _, x := range j.All() {
		e, ok := gate.Decode(x)
		if !ok {
			return api.ErrForm
		}
		l = append(l, e)
	}
	if !isLog(m.s, ticket.Public(m.s, m.secret), m.number, l) || slices.ContainsFunc(l, func(e api.Entry) bool { return e.Kind == api.EnAsk && e.Nums[0] >= len(m.doors) }) {
		return api.ErrForm
	}
	m.journal, m.entries = j, l
	return api.OK
}

// late reports whether the last entry has a greater time.
func (m *model) late(now int) bool {
	n := len(m.entries)
	return n > 0 && m.entries[n-1].Time > now
}

// append appends an entry.
func (m *model) append(e api.Entry) (api.Entry, api.Errno) {
	e.Gate, e.No = m.number, len(m.entries)
	x, ok := gate.Seal(m.s, m.secret, e)
	if !ok {
		panic("an entry that has no form")
	}
	if e := m.journal.Append(entryText(x)); e != api.OK {
		return api.Entry{}, e
	}
	if e := m.journal.Sync(); e != api.OK {
		return api.Entry{}, e
	}
	m.entries = append(m.entries, x)
	return x, api.OK
}

// note is Learn, Recall, Sync or Hear.
func (m *model) note(now, kind int, n []int) api.Errno {
	e := api.Entry{Gate: m.number, Time: now, Kind: kind, Nums: n}
	if !formed(m.s, e) {
		return api.ErrArg
	}
	told := numbersOf(m.entries, kind)
	list := kind == api.EnLearn || kind == api.EnRecall
	if m.late(now) || list && slices.ContainsFunc(n, func(x int) bool { return slices.Contains(told, x) }) {
		return api.ErrState
	}
	if kind == api.EnLearn && len(told)+len(n) > 16 || kind == api.EnRecall && len(told)+len(n) > 32 {
		return api.ErrFull
	}
	_, f := m.append(e)
	return f
}

func (m *model) ask(now, door int) (int, api.Task, api.Errno) {
	if now < 0 || now > 1<<31 || door < 0 || door >= len(m.doors) {
		return 0, api.Task{}, api.ErrArg
	}
	asks := 0
	for _, e := range m.entries {
		if e.Kind == api.EnAsk {
			asks++
		}
	}
	dare := dareOf(m.s, m.number, asks)
	x, e := gate.Task(m.s, m.doors[door], now, numbersOf(m.entries, api.EnLearn), max(1, dare))
	switch g := m.doors[door].Limit.Gate; {
	case e != api.OK:
		return 0, api.Task{}, api.ErrArg
	case g != -1 && g != m.number:
		return 0, api.Task{}, api.ErrOwner
	case m.late(now):
		return 0, api.Task{}, api.ErrState
	case dare == 0:
		return 0, api.Task{}, api.ErrFull
	}
	y, e := m.append(api.Entry{Time: now, Kind: api.EnAsk, Nums: []int{door, dare}, Text: taskText(x)})
	if e != api.OK {
		return 0, api.Task{}, e
	}
	return y.No, x, api.OK
}

// answered reports whether an EnAsk is answered.
func (m *model) answered(no int) bool {
	return slices.ContainsFunc(m.entries, func(e api.Entry) bool { return isAnswer(e) && e.Nums[0] == no })
}

func (m *model) admit(now, no int, r api.Record) (api.Entry, api.Errno) {
	if now < 0 || now > 1<<31 || no < 0 || no >= len(m.entries) || m.entries[no].Kind != api.EnAsk {
		return api.Entry{}, api.ErrArg
	}
	if m.late(now) || m.answered(no) {
		return api.Entry{}, api.ErrState
	}
	if e := m.refuses(now, m.entries[no], r); e != api.OK {
		if _, f := m.append(api.Entry{Time: now, Kind: api.EnRefuse, Nums: []int{no, int(e)}}); f != api.OK {
			return api.Entry{}, f
		}
		return api.Entry{}, e
	}
	s, _ := show.Encode(r)
	return m.append(api.Entry{Time: now, Kind: api.EnShow, Nums: []int{no}, Text: s})
}

// refuses returns the error for which a record is refused, or OK.
func (m *model) refuses(now int, ask api.Entry, r api.Record) api.Errno {
	if n := m.doors[ask.Nums[0]].Limit.Length; n > 0 && now/n != ask.Time/n {
		return api.ErrStale
	}
	if _, ok := show.Encode(r); !ok {
		return api.ErrForm
	}
	x := taskOf(ask)
	if e := show.Check(m.s, x, r); e != api.OK {
		return e
	}
	if e := linksError(x, r, now, numbersOf(m.entries, api.EnRecall)); e != api.OK {
		return e
	}
	for _, e := range m.entries {
		if e.Kind == api.EnShow && shareMark(recordOf(e), r) {
			return api.ErrTwice
		}
	}
	return api.OK
}

// pair is a gate, and its model with a disk of its own.
type pair struct {
	t     *testing.T
	m     *model
	d     *base.Disk
	g     *gate.Gate
	tried []api.Held     // tickets that were shown before
	calls map[string]int // how often a call has had which result
}

func newPair(t *testing.T, s api.Setup, number int, calls map[string]int) *pair {
	t.Helper()
	x := &pair{t: t, m: &model{s: s, number: number, secret: secretOf(number), doors: doors(s), disk: base.NewDisk()}, d: base.NewDisk(), calls: calls}
	if !x.open() {
		t.Fatal("open")
	}
	return x
}

// open opens the gate and its model, and reports whether the results are equal.
func (x *pair) open() bool {
	g, e := gate.Open(x.d, x.m.s, x.m.number, x.m.secret, x.m.doors)
	f := x.m.open()
	x.calls[fmt.Sprint("open ", e)]++
	if e == api.OK && g != nil {
		x.g = g
	}
	return e == f && (g == nil) == (e != api.OK)
}

// held returns a ticket of a holder for a window, which may have been borrowed, or shown before.
func (x *pair) held(r *rand.Rand, secret, window, number int) api.Held {
	h := adult(r, x.m.s, secret, window, number)
	if len(x.tried) > 0 && r.IntN(3) == 0 {
		if y := x.tried[r.IntN(len(x.tried))]; y.Window == window && r.IntN(3) > 0 {
			h = y
		} else if len(y.Links) == 0 && y.Window == window {
			h = lend(x.m.s, y, h, "2147483648;0:,")
		}
	}
	if r.IntN(3) == 0 && len(h.Links) == 0 {
		h = lend(x.m.s, adult(r, x.m.s, secret, window, 60), h, []string{"2147483648;0:,", "2147483648;0:,", "2147483648;1:q,", "100;0:,", "99;1:q,", "x"}[r.IntN(6)])
	}
	x.tried = append(x.tried, h)
	return h
}

// record returns a record for a task, or something like it.
func (x *pair) record(r *rand.Rand, ask api.Entry) api.Record {
	if ask.Kind != api.EnAsk {
		return api.Record{}
	}
	task, limit := taskOf(ask), x.m.doors[ask.Nums[0]].Limit
	window := 0
	if limit.Length > 0 {
		window = ask.Time / limit.Length
	}
	number := 20 + r.IntN(30)
	held := []api.Held{x.held(r, secretP, window, number)}
	if len(task.Passes) > 1 {
		held = append(held, x.held(r, secretO, window, held[0].Attrs[0]))
	}
	if show.Fits(x.m.s, task, held) != api.OK {
		return api.Record{Tickets: []api.Ticket{held[0].Ticket}}
	}
	y := shown(x.t, x.m.s, task, held...)
	switch r.IntN(12) {
	case 0:
		y.Spends[0].Dare++
	case 1:
		y.Commits[0] = y.Commits[1]
	case 2:
		y.Proof.Dares = y.Proof.Dares[1:]
	case 3:
		y.Escrow = nil
	}
	return y
}

// unanswered returns the number of the first EnAsk without an answer, or -1.
func (x *pair) unanswered() int {
	for i, y := range x.m.entries {
		if y.Kind == api.EnAsk && !x.m.answered(i) {
			return i
		}
	}
	return -1
}

// call makes one call of the gate and of the model, and reports whether the results are equal.
func (x *pair) call(r *rand.Rand) (string, bool) {
	now := max(0, len(x.m.entries)*3+r.IntN(9)-3)
	if r.IntN(30) == 0 {
		now = []int{-1, 1<<31 + 1}[r.IntN(2)]
	}
	var e, f api.Errno
	same, name := true, ""
	switch n := r.IntN(100); {
	case n < 5:
		name = "learn"
		first := r.IntN(200)
		l := [][]int{{1 + first}, {1 + r.IntN(9), 20 + first}, {3, 3}, nil, upTo(220)[first : first+9]}[r.IntN(5)]
		e, f = x.g.Learn(now, l), x.m.note(now, api.EnLearn, l)
	case n < 13:
		name = "recall"
		first := r.IntN(100)
		l := someElements(x.m.s, 140)[first : first+1]
		if len(x.tried) > 0 && r.IntN(2) == 0 {
			for _, y := range x.tried[r.IntN(len(x.tried))].Links {
				l = append(l, y.Ticket.Mark)
			}
		}
		if r.IntN(5) == 0 {
			l = someElements(x.m.s, 140)[first : first+17]
		}
		e, f = x.g.Recall(now, l), x.m.note(now, api.EnRecall, l)
	case n < 16:
		name = "sync"
		low, high := r.IntN(50)-1, r.IntN(100)
		e, f = x.g.Sync(now, low, high), x.m.note(now, api.EnSync, []int{low, high})
	case n < 19:
		name = "hear"
		other, no := r.IntN(26)-1, ints[r.IntN(len(ints))]
		e, f = x.g.Hear(now, other, no), x.m.note(now, api.EnHear, []int{other, no})
	case n < 50:
		name = "ask"
		door := r.IntN(4)
		a, y, e1 := x.g.Ask(now, door)
		b, z, f1 := x.m.ask(now, door)
		e, f, same = e1, f1, a == b && taskText(y) == taskText(z)
	case n < 97:
		name = "admit"
		no, record := r.IntN(len(x.m.entries)+2)-1, api.Record{}
		if i := x.unanswered(); i >= 0 && r.IntN(9) > 0 {
			no, record = i, x.record(r, x.m.entries[i])
		}
		y, e1 := x.g.Admit(now, no, record)
		z, f1 := x.m.admit(now, no, record)
		e, f, same = e1, f1, entryText(y) == entryText(z)
	default:
		return "open", x.open()
	}
	name = fmt.Sprint(name, " ", e)
	x.calls[name]++
	return name, same && e == f
}

// trouble lets something happen to both disks.
func (x *pair) trouble(r *rand.Rand) {
	keep := []int{r.IntN(2), r.IntN(2), r.IntN(2)}
	n := 1 + r.IntN(6)
	for _, d := range []*base.Disk{x.d, x.m.disk} {
		switch n {
		case 1:
			d.Lose(1)
		case 2, 3:
			d.Arm(n+2*keep[0], keep)
		case 4:
			d.Arm(1, keep)
		default:
			d.Crash(keep)
		}
	}
}

// up starts both disks if they are down, and opens the gates until there is no trouble, and reports whether both disks are equal.
func (x *pair) up() bool {
	if x.d.Down() != x.m.disk.Down() {
		return false
	}
	for n := 0; x.d.Down(); n++ {
		x.d.Start()
		x.m.disk.Start()
		if n > 4 || !x.open() || x.d.Down() != x.m.disk.Down() {
			return false
		}
	}
	return true
}

// sameDisks reports whether both disks have the same file.
func (x *pair) sameDisks() bool {
	a, e := x.d.Read(1, 0, 1<<24)
	b, f := x.m.disk.Read(1, 0, 1<<24)
	return a == b && e == f && x.d.Size(1) == x.m.disk.Size(1)
}

// P8.5 to P8.9: random calls, with crashes, lost syncs and restarts, against the model; also the disks are always equal, and go down at the same calls.
func TestModel(t *testing.T) {
	r := random()
	results := map[string]int{}
	for round := range 60 {
		x := newPair(t, middle(), round%5, results)
		for step := range 120 {
			if round%4 > 0 && r.IntN(25) == 0 {
				x.trouble(r)
			}
			// A gate whose disk is down is still called now and then.
			if r.IntN(3) > 0 && !x.up() {
				t.Fatal(round, step, "up")
			}
			if name, ok := x.call(r); !ok {
				t.Fatal(round, step, name)
			}
			if a, b := listText(x.g.Log()), listText(x.m.entries); a != b || !x.sameDisks() {
				t.Fatal(round, step, a, b)
			}
		}
	}
	for _, name := range []string{"open OK", "open ErrLost", "open ErrDown", "learn OK", "learn ErrArg", "learn ErrState", "learn ErrFull", "learn ErrDown", "recall OK", "recall ErrArg", "recall ErrState", "recall ErrFull", "sync OK", "sync ErrArg", "sync ErrState", "hear OK", "hear ErrArg", "hear ErrState", "ask OK", "ask ErrArg", "ask ErrOwner", "ask ErrState", "ask ErrFull", "ask ErrDown", "ask ErrLost", "admit OK", "admit ErrArg", "admit ErrState", "admit ErrStale", "admit ErrForm", "admit ErrCheck", "admit ErrRevoked", "admit ErrTwice", "admit ErrDown"} {
		if results[numbered(name)] == 0 {
			t.Error(name, results)
		}
	}
}

// numbered replaces the name of an error by its number.
func numbered(s string) string {
	call, e, _ := strings.Cut(s, " ")
	n := map[string]api.Errno{"OK": api.OK, "ErrArg": api.ErrArg, "ErrForm": api.ErrForm, "ErrTwice": api.ErrTwice, "ErrFull": api.ErrFull, "ErrState": api.ErrState, "ErrDown": api.ErrDown, "ErrLost": api.ErrLost, "ErrCheck": api.ErrCheck, "ErrRevoked": api.ErrRevoked, "ErrStale": api.ErrStale, "ErrOwner": api.ErrOwner}
	return fmt.Sprint(call, " ", n[e])
}
