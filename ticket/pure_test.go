package ticket_test

import (
	"slices"
	"testing"

	"cloak/api"
	"cloak/ticket"
)

// arguments are one argument of each kind.
type arguments struct {
	setup    api.Setup
	mirror   api.Mirror
	from, to api.Session
	blinding api.Blinding
	ticket   api.Ticket
	a, b     api.Spend
	keys     []int
	links    []api.Link
}

// sample returns arguments with which all functions succeed; they are new memory in each call. The numbers were calculated by another program.
func sample() arguments {
	x := arguments{
		setup:    api.Setup{Group: small.Group, Bases: []int{4, 16, 18}, Blind: 3},
		mirror:   api.Mirror{Bases: []int{1, 2, 3}, Blind: 4},
		from:     api.Session{Attrs: []int{5, 7}, Offer: api.Offer{Z: 9, A: 16, B: 13}, C: 9, R: 7},
		to:       api.Session{Attrs: []int{2, 9}, Offer: api.Offer{Z: 9, A: 4, B: 6}, C: 1, R: 4},
		blinding: api.Blinding{S: 4, U: 3, V: 0, Ys: []int{1, 2, 3}},
		ticket:   api.Ticket{Mark: 8, First: 18, Z: 6, A: 2, B: 13, R: 10},
		a:        api.Spend{Dare: 2, Answers: []int{9, 9, 4}},
		b:        api.Spend{Dare: 5, Answers: []int{10, 3, 0}},
		keys:     []int{6, 18},
	}
	x.links = []api.Link{{Ticket: x.ticket, Spend: api.Spend{Dare: 5, Answers: []int{10, 3, 0}}}}
	return x
}

// lists returns all lists of numbers in arguments.
func (x *arguments) lists() []*[]int {
	return []*[]int{&x.setup.Bases, &x.mirror.Bases, &x.from.Attrs, &x.to.Attrs, &x.blinding.Ys, &x.a.Answers, &x.b.Answers, &x.keys, &x.links[0].Spend.Answers}
}

// run calls all functions, and returns the lists of numbers that they return.
func run(t *testing.T, x arguments) [][]int {
	t.Helper()
	o, e := ticket.Propose(x.setup, 3, x.from.Attrs, 2)
	c, f := ticket.Ask(x.setup, 18, x.from.Attrs, x.from.Offer, x.blinding)
	y, g := ticket.Finish(x.setup, 18, x.from.Attrs, x.from.Offer, x.blinding, x.from.R)
	if o != x.from.Offer || e != api.OK || c != 9 || f != api.OK || y != x.ticket || g != api.OK || ticket.Grant(x.setup, 3, 2, 9) != 7 || ticket.Public(x.setup, 3) != 18 {
		t.Fatal(o, e, c, f, y, g)
	}
	if ticket.Mark(x.setup, x.from.Attrs) != 6 || !ticket.Usable(x.setup, x.from.Attrs) || !ticket.Formed(x.setup, y) || ticket.Inner(x.setup, y) != 5 || !ticket.Valid(x.setup, 18, y) || ticket.LendDare(x.setup, y, "") < 6 {
		t.Fatal(y)
	}
	if !ticket.Accepts(x.setup, y, x.a) || !ticket.Guilty(x.setup, y, x.a, x.b, x.from.Attrs) || !ticket.Follows(x.setup, x.keys, x.links, 5) {
		t.Fatal(x)
	}
	spend, ok1 := ticket.Use(x.setup, x.from.Attrs, x.blinding, 2)
	attrs, ok2 := ticket.Trace(x.setup, y, x.a, x.b)
	b, ok3 := ticket.Explain(x.setup, x.mirror, 18, x.from, x.blinding, x.to, 2)
	if !ok1 || !ok2 || !ok3 {
		t.Fatal(spend, attrs, b)
	}
	return [][]int{spend.Answers, attrs, b.Ys, {spend.Dare, b.S, b.U, b.V}}
}

func sameLists(a, b [][]int) bool { return slices.EqualFunc(a, b, slices.Equal[[]int]) }

// P4.11, P3: arguments are not modified, also not beyond their length, and what is there is not read.
func TestArgumentsAreKept(t *testing.T) {
	want := run(t, sample())
	x, kept := sample(), sample()
	var whole [][]int
	for _, p := range x.lists() {
		w := append(slices.Clone(*p), -77, -78, -79)
		*p = w[:len(*p)]
		whole = append(whole, w)
	}
	x.links = append(x.links, api.Link{Terms: "beyond"})[:1]
	if got := run(t, x); !sameLists(got, want) {
		t.Error(got, want)
	}
	for i, p := range kept.lists() {
		if !slices.Equal(whole[i], append(slices.Clone(*p), -77, -78, -79)) {
			t.Error(i, whole[i])
		}
	}
	if x.links[:2][1].Terms != "beyond" || x.links[0].Ticket != kept.links[0].Ticket || x.links[0].Terms != "" {
		t.Error(x.links[:2])
	}
}

// P4.11, P3: what is done to results, up to their capacity, does not change arguments, later results, or other results.
func TestResultsAreNew(t *testing.T) {
	want := run(t, sample())
	x := sample()
	got := run(t, x)
	for i, l := range got {
		before := slices.Clone(l)
		for k := range l[:cap(l)] {
			l[:cap(l)][k] = -1000
		}
		for k, other := range got {
			if k != i && slices.Contains(other, -1000) {
				t.Error(i, k)
			}
		}
		copy(l, before)
		for k := range l[len(l):cap(l)] {
			l[len(l):cap(l)][k] = -1000
		}
	}
	for _, l := range got {
		for k := range l {
			l[k] = -1000
		}
	}
	if again := run(t, x); !sameLists(again, want) {
		t.Error(again, want)
	}
	// Later changes of arguments do not change results.
	got = run(t, x)
	for _, p := range x.lists() {
		for k := range *p {
			(*p)[k] = -1000
		}
	}
	if !sameLists(got, want) {
		t.Error(got, want)
	}
}
