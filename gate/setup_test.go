package gate_test

import (
	"math"
	"math/rand/v2"
	"slices"
	"testing"

	"cloak/api"
	"cloak/base"
	"cloak/field"
	"cloak/gate"
	"cloak/proof"
	"cloak/show"
	"cloak/ticket"
)

// small is the setup of the document's examples. There is one attribute but the number.
func small() api.Setup {
	return api.Setup{Group: api.Group{P: 23, Q: 11, G: 4}, Bases: []int{4, 16, 18}, Blind: 3}
}

// middle is a setup in which each gate has at least 21 challenges. There are two attributes but the number.
func middle() api.Setup {
	return api.Setup{Group: api.Group{P: 2027, Q: 1013, G: 4}, Bases: []int{4, 9, 16, 36}, Blind: 25}
}

// large is a setup in the greatest group with the generator 4.
func large() api.Setup {
	return api.Setup{
		Group: api.Group{P: 2305843009213691579, Q: 1152921504606845789, G: 4},
		Bases: []int{1316086255203816748, 1400493534638815237, 631232422839134614, 16}, Blind: 761017435413067610,
	}
}

func setups() []api.Setup { return []api.Setup{small(), middle(), large()} }

// notSetups are not valid.
func notSetups() []api.Setup {
	g, b := middle().Group, middle().Bases
	return []api.Setup{
		{},
		{Group: g},
		{Group: g, Bases: b[:1], Blind: 25},
		{Group: g, Bases: []int{1, 9, 16, 36}, Blind: 25},
		{Group: g, Bases: []int{4, 9, 2026, 36}, Blind: 25},
		{Group: g, Bases: b, Blind: 1},
		{Group: g, Bases: slices.Repeat(b, 2), Blind: 25},
		{Group: api.Group{P: 2027, Q: 1013, G: 2026}, Bases: b, Blind: 25},
		{Group: api.Group{P: 2025, Q: 1012, G: 4}, Bases: b, Blind: 25},
		{Group: api.Group{P: -1, Q: math.MaxInt, G: 4}, Bases: b, Blind: 25},
	}
}

// TestSetups checks that the setups are what the tests take them for.
func TestSetups(t *testing.T) {
	for _, s := range setups() {
		if !proof.ValidSetup(s) {
			t.Error(s)
		}
	}
	for _, s := range notSetups() {
		if proof.ValidSetup(s) {
			t.Error(s)
		}
	}
}

// ints are numbers at which calculations overflow if one is not careful, and others.
var ints = []int{math.MinInt, math.MinInt + 1, -1 << 61, -24, -1, 0, 1, 2, 3, 23, 24, 25, 505, 506, 507, 1012, 1013, 4095, 4096, api.MaxTime - 1, api.MaxTime, api.MaxTime + 1, 1 << 60, 1 << 62, math.MaxInt - 23, math.MaxInt}

// random returns a source of numbers that are the same in each run.
func random() *rand.Rand { return rand.New(rand.NewPCG(8, 8)) }

// The secrets of the issuers of the passes p and o, and of a guest.
const (
	secretP     = 7
	secretO     = 8
	secretGuest = 5
)

// door returns a door at which holders of a pass p with a = 1 may enter once an hour. Guests may borrow their tickets.
func door(s api.Setup) api.Door {
	attrs := []string{"a", "b"}[:len(s.Bases)-2]
	pass := api.Pass{Name: "p", Pub: ticket.Public(s, secretP), Attrs: attrs, Guests: []int{ticket.Public(s, secretGuest)}}
	task := api.Task{Question: "question q { p.a >= 1 }", Passes: []api.Pass{pass}, Most: 1, Quorum: 2, Jurors: 3}
	return api.Door{Limit: api.Limit{Count: 1, Length: 60, Gate: api.None}, Task: task}
}

// doors returns the door for everybody, one of the gate 2 without windows, and one that asks for two passes.
func doors(s api.Setup) []api.Door {
	l := []api.Door{door(s), door(s), door(s)}
	l[1].Limit = api.Limit{Count: 2, Gate: 2}
	l[1].Task.Question, l[1].Task.Version = "question own { p.a >= 0 }", 4
	l[2].Limit.Length = 90
	l[2].Task.Question = "question two { p.a >= 1 or o.a >= 1 }"
	l[2].Task.Passes = append(l[2].Task.Passes, api.Pass{Name: "o", Pub: ticket.Public(s, secretO), Attrs: []string{"a"}})
	return l
}

// issue returns a ticket for attributes and a window, which an issuer with a secret has signed.
func issue(r *rand.Rand, s api.Setup, secret, window int, attrs ...int) api.Held {
	q := s.Group.Q
	x := field.Mul(q, secret, window+1)
	key, w := ticket.Public(s, x), r.IntN(q)
	o, e := ticket.Propose(s, x, attrs, w)
	if e != api.OK {
		panic("no offer")
	}
	for {
		b := api.Blinding{S: 1 + r.IntN(q-1), U: 1 + r.IntN(q-1), V: r.IntN(q)}
		for range s.Bases {
			b.Ys = append(b.Ys, r.IntN(q))
		}
		c, e := ticket.Ask(s, key, attrs, o, b)
		if e == api.ErrState {
			continue
		}
		y, f := ticket.Finish(s, key, attrs, o, b, ticket.Grant(s, x, w, c))
		if e != api.OK || f != api.OK {
			panic("no ticket")
		}
		return api.Held{Window: window, Attrs: attrs, Blinding: b, Ticket: y}
	}
}

// adult returns a ticket of a holder with a = 1.
func adult(r *rand.Rand, s api.Setup, secret, window, number int) api.Held {
	attrs := []int{number, 1}
	for len(attrs) < len(s.Bases)-1 {
		attrs = append(attrs, 0)
	}
	return issue(r, s, secret, window, attrs...)
}

// lend returns the second ticket, for which the first one was spent under terms.
func lend(s api.Setup, a, b api.Held, terms string) api.Held {
	x, ok := ticket.Use(s, a.Attrs, a.Blinding, ticket.LendDare(s, b.Ticket, terms))
	if !ok {
		panic("no spend")
	}
	b.Links = append(slices.Clone(a.Links), api.Link{Ticket: a.Ticket, Spend: x, Terms: terms})
	return b
}

// shown returns the record of a showing of tickets that fit a task.
func shown(t *testing.T, s api.Setup, task api.Task, held ...api.Held) api.Record {
	t.Helper()
	c, e := show.Toss(s, task, held, "seed")
	if e != api.OK {
		t.Fatal("toss", e)
	}
	r, _, e := show.Show(s, task, held, c)
	if e != api.OK {
		t.Fatal("show", e)
	}
	return r
}

// recordText returns the encoding of a record.
func recordText(t *testing.T, r api.Record) string {
	t.Helper()
	text, ok := show.Encode(r)
	if !ok {
		t.Fatal("no encoding")
	}
	return text
}

// secretOf returns the secret of a gate.
func secretOf(number int) int { return 1 + 3*number%10 }

// keysOf returns the keys of the first n gates.
func keysOf(s api.Setup, n int) []int {
	var l []int
	for i := range n {
		l = append(l, ticket.Public(s, secretOf(i)))
	}
	return l
}

// seal returns an entry that its gate has signed.
func seal(t *testing.T, s api.Setup, e api.Entry) api.Entry {
	t.Helper()
	x, ok := gate.Seal(s, secretOf(e.Gate), e)
	if !ok {
		t.Fatal("no form", e)
	}
	return x
}

// open opens a gate.
func open(t *testing.T, d *base.Disk, s api.Setup, number int, l ...api.Door) *gate.Gate {
	t.Helper()
	g, e := gate.Open(d, s, number, secretOf(number), l)
	if e != api.OK || g == nil {
		t.Fatal("open", e)
	}
	return g
}

// restart crashes a disk, where every pending sector survives or none does, and opens its gate again.
func restart(t *testing.T, d *base.Disk, s api.Setup, number, keep int, l ...api.Door) *gate.Gate {
	t.Helper()
	d.Crash([]int{keep})
	d.Start()
	return open(t, d, s, number, l...)
}

// journalOf returns a disk whose file 1 is a journal with the given records.
func journalOf(t *testing.T, records ...string) *base.Disk {
	t.Helper()
	d := base.NewDisk()
	j, e := base.OpenJournal(d, 1)
	if e != api.OK {
		t.Fatal(e)
	}
	for _, x := range records {
		if e := j.Append(x); e != api.OK {
			t.Fatal(e)
		}
	}
	if e := j.Sync(); e != api.OK {
		t.Fatal(e)
	}
	return d
}

// content returns the file 1 of a disk that is up.
func content(t *testing.T, d *base.Disk) string {
	t.Helper()
	s, e := d.Read(1, 0, d.Size(1))
	if e != api.OK {
		t.Fatal(e)
	}
	return s
}
