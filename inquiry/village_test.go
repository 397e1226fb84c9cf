package inquiry_test

import (
	"slices"
	"testing"

	"cloak/api"
	"cloak/base"
	"cloak/gate"
	"cloak/inquiry"
	"cloak/purse"
	"cloak/show"
	"cloak/ticket"
)

// use is a showing that a gate has admitted.
type use struct {
	court
	receipt api.Entry
}

// village has gates that work as they should, and books about them.
type village struct {
	*world
	gates []*gate.Gate
	books api.Books
	uses  []use
}

// gateSecret returns the secret of a gate.
func gateSecret(number int) int { return 200 + number }

// settled returns a village with three gates and two doors, at which nobody has been yet.
func (w *world) settled(t *testing.T) *village {
	t.Helper()
	v := &village{world: w}
	adult := api.Task{Version: 1, Question: question("id.age >= 18"), Passes: []api.Pass{w.id(0)}, Most: 100, Quorum: 3, Jurors: 4}
	local := api.Task{Question: question("id.zone = 1 or id.age >= 60"), Passes: []api.Pass{w.id(0)}, Most: 100, Quorum: 1, Jurors: 3}
	limits := []api.Limit{{Count: 2, Length: 60, Gate: api.None}, {Count: 3, Gate: api.None}}
	v.books = api.Books{
		Doors:    []api.Door{{Limit: limits[0], Task: adult}, {Limit: limits[1], Task: local}},
		Labels:   []string{"question a { id.age >= 18 }", "question b { id.age >= 60 or id.zone = 1 }"},
		Limits:   limits,
		Statutes: statutes(),
		Jurors:   [][]int{w.jurors(3), w.jurors(4)},
	}
	for number := range 3 {
		g, e := gate.Open(base.NewDisk(), w.s, number, gateSecret(number), v.books.Doors)
		if e != api.OK {
			t.Fatal(e)
		}
		v.gates = append(v.gates, g)
		v.books.Gates = append(v.books.Gates, ticket.Public(w.s, gateSecret(number)))
	}
	return v
}

// grant issues a ticket for a door at a time to a holder, which is an adult of the zone 1.
func (v *village) grant(door, now, number int) api.Held {
	window := purse.Window(v.books.Doors[door].Limit, now)
	_, held := v.issue(v.secretFor(secretID, window), number, 61, 1)
	v.books.Grants = append(v.books.Grants, api.Left{Limit: door, Window: window, Count: 1})
	v.books.Holders = append(v.books.Holders, number)
	return held
}

// visit shows a ticket at a gate.
func (v *village) visit(t *testing.T, number, door, now int, held api.Held) {
	t.Helper()
	g := v.gates[number]
	no, task, e := g.Ask(now, door)
	if e != api.OK {
		t.Fatal(e)
	}
	r, points := v.shown(t, task, held)
	receipt, e := g.Admit(now, no, r)
	if e != api.OK {
		t.Fatal(e)
	}
	c := court{v.world, v.books.Statutes, v.books.Jurors[task.Version], task, held.Attrs[0], r, points}
	v.uses = append(v.uses, use{c, receipt})
	v.collect()
}

// collect puts the logs of all gates into the books.
func (v *village) collect() {
	v.books.Entries = nil
	for _, g := range v.gates {
		v.books.Entries = append(v.books.Entries, g.Log()...)
	}
}

// voted returns the vote of a juror about the use with an index.
func (v *village) voted(t *testing.T, i, juror int, reason string) api.Vote {
	t.Helper()
	u := &v.uses[i]
	x := u.vote(t, juror, reason)
	x.Gate, x.No = u.receipt.Gate, u.receipt.No
	return u.cast(t, x)
}

// reveal opens the use with an index by the votes of some jurors, all of which are kept.
func (v *village) reveal(t *testing.T, i int, jurors ...int) {
	t.Helper()
	for _, j := range jurors {
		v.books.Votes = append(v.books.Votes, v.voted(t, i, j, "theft"))
	}
	u := &v.uses[i]
	o, e := inquiry.Open(u.s, u.keys, u.statutes, u.task, u.record, u.receipt.Gate, u.receipt.No, "theft", v.books.Votes)
	if e != api.OK || o.Holder != u.number {
		t.Fatal(o, e)
	}
	v.books.Openings = append(v.books.Openings, o)
}

// busy returns a village in which holders have shown tickets, and some uses were opened.
func (w *world) busy(t *testing.T) *village {
	t.Helper()
	v := w.settled(t)
	for i, x := range []struct{ gate, door, now, number int }{{0, 0, 10, 301}, {0, 1, 20, 302}, {1, 0, 70, 301}, {2, 1, 80, 302}, {0, 0, 130, 303}, {1, 1, 140, 304}} {
		held := v.grant(x.door, x.now, x.number)
		if i == 2 {
			if e := v.gates[1].Learn(60, []int{900, 901}); e != api.OK {
				t.Fatal(e)
			}
		}
		v.visit(t, x.gate, x.door, x.now, held)
	}
	v.reveal(t, 0, 2, 0)
	v.reveal(t, 1, 1)
	v.reveal(t, 3, 2, 0)
	v.reveal(t, 4, 0, 1, 2, 3)
	return v
}

// audit returns the findings of the books, and checks that they are those of the definition.
func (v *village) audit(t *testing.T, change ...func(b *api.Books)) []api.Finding {
	t.Helper()
	b := copied(v.books)
	for _, f := range change {
		f(&b)
	}
	l, e := inquiry.Audit(v.s, b)
	if e != api.OK || !slices.Equal(l, found(v.s, b)) {
		t.Fatal(l, found(v.s, b), e)
	}
	if s, ok := inquiry.Report(l); !ok {
		t.Error(l, s)
	}
	return l
}

// sealed returns an entry that its gate has signed.
func (v *village) sealed(t *testing.T, e api.Entry) api.Entry {
	t.Helper()
	x, ok := gate.Seal(v.s, gateSecret(e.Gate), e)
	if !ok {
		t.Fatal("no form", e)
	}
	return x
}

// recordText returns the encoding of a record.
func recordText(t *testing.T, r api.Record) string {
	t.Helper()
	s, ok := show.Encode(r)
	if !ok {
		t.Fatal("no encoding")
	}
	return s
}
