package gate_test

import (
	"math/rand/v2"
	"slices"
	"testing"

	"cloak/api"
	"cloak/base"
	"cloak/gate"
	"cloak/ticket"
)

// altered returns an entry with a change, which its gate has signed.
func altered(t *testing.T, s api.Setup, e api.Entry, change func(e *api.Entry)) api.Entry {
	t.Helper()
	e.Nums = slices.Clone(e.Nums)
	change(&e)
	return seal(t, s, e)
}

// reasked returns an EnAsk with a change of its task, which its gate has signed. The challenge is that of the task.
func reasked(t *testing.T, s api.Setup, e api.Entry, change func(x *api.Task)) api.Entry {
	t.Helper()
	return altered(t, s, e, func(e *api.Entry) {
		x := taskOf(*e)
		change(&x)
		e.Nums[1], e.Text = x.Dare, taskText(x)
	})
}

// at returns a change that sets the number and the time of an entry.
func at(no, time int) func(e *api.Entry) { return func(e *api.Entry) { e.No, e.Time = no, time } }

// first returns a change that sets the first number of an entry.
func first(n int) func(e *api.Entry) { return func(e *api.Entry) { e.Nums[0] = n } }

// both returns two changes as one.
func both(f, g func(e *api.Entry)) func(e *api.Entry) { return func(e *api.Entry) { f(e); g(e) } }

// The entries of logOf.
const (
	oneLearn = iota
	oneAsk
	twoAsk
	oneSync
	twoShow // with a link under the terms 99;1:q,
	oneRefuse
	oneHear
	oneRecall
	twoLearn
	threeAsk
	threeShow
	fourAsk
)

// judged checks whether a charge holds, and that it does not hold with another gate, with other keys, turned, or if an entry is not signed.
func judged(t *testing.T, s api.Setup, c api.Charge, want bool) {
	t.Helper()
	keys := keysOf(s, 24)
	if got := gate.Charged(s, keys, doors(s), c); got != want || holds(s, keys, doors(s), c) != want {
		t.Error(c.Reason, got, want)
	}
	if !want {
		return
	}
	zero := isZeroEntry(c.B)
	l := gate.Charges(s, keys, doors(s), []api.Entry{c.B, c.A})
	if !slices.ContainsFunc(l, func(x api.Charge) bool { return chargeText(x) == chargeText(c) }) {
		t.Error(c.Reason, "not found")
	}
	for i, change := range []func(c *api.Charge){
		func(c *api.Charge) { c.Gate++ }, func(c *api.Charge) { c.Gate = -1 }, func(c *api.Charge) { c.Reason += 100 }, func(c *api.Charge) { c.Reason = -1 }, func(c *api.Charge) { c.Reason = api.RsKinds },
		func(c *api.Charge) { c.A, c.B = c.B, c.A }, func(c *api.Charge) { c.A.Sig.S++ }, func(c *api.Charge) { c.B.Sig.S++ }, func(c *api.Charge) { c.B.No++ }, func(c *api.Charge) { c.B.Text += "x" }, func(c *api.Charge) { c.B.Nums = append([]int{1}, c.B.Nums...) },
		func(c *api.Charge) { c.B.Gate++ },
	} {
		y := c
		change(&y)
		if gate.Charged(s, keys, doors(s), y) {
			t.Error(c.Reason, zero, i)
		}
	}
	if gate.Charged(s, keys[:c.Gate], doors(s), c) || gate.Charged(s, nil, doors(s), c) {
		t.Error(c.Reason, "keys")
	}
	keys[c.Gate]++
	if gate.Charged(s, keys, doors(s), c) {
		t.Error(c.Reason, "the key")
	}
	for _, not := range notSetups() {
		if gate.Charged(not, keys, doors(s), c) || len(gate.Charges(not, keysOf(s, 24), doors(s), []api.Entry{c.A, c.B})) > 0 {
			t.Error(c.Reason, not)
		}
	}
}

// P8.12: charges with one entry.
func TestChargesOfOne(t *testing.T) {
	s := middle()
	for number := range 3 {
		l := logOf(t, s, number)
		charge := func(reason int, e api.Entry, want bool) {
			t.Helper()
			judged(t, s, api.Charge{Gate: number, Reason: reason, A: e}, want)
		}
		// Only an EnAsk breaks a rule on its own, and only these two.
		for _, e := range l {
			for reason := -1; reason <= api.RsKinds; reason++ {
				charge(reason, e, false)
			}
		}
		dare := func(n int) api.Entry {
			return reasked(t, s, l[oneAsk], func(x *api.Task) { x.Dare = n })
		}
		for n := range 60 {
			charge(api.RsDare, dare(1+n), n%24 != number)
		}
		for n := 450; n < 560; n++ {
			charge(api.RsDare, dare(1+n), n%24 != number || n+1 > 506)
		}
		charge(api.RsDare, dare(1012), true)
		charge(api.RsTask, dare(1012), false) // the task is as it should be, but for the challenge
		charge(api.RsDare, altered(t, s, l[oneSync], func(e *api.Entry) { e.Nums = []int{0, 1012} }), false)
		for i, c := range []struct {
			e    api.Entry
			want bool
		}{
			{altered(t, s, l[oneAsk], first(1)), true}, {altered(t, s, l[oneAsk], first(2)), true}, {altered(t, s, l[oneAsk], first(3)), true}, {altered(t, s, l[oneAsk], first(15)), true}, {altered(t, s, l[fourAsk], first(0)), true},
			{altered(t, s, l[oneAsk], at(1, 60)), false}, {altered(t, s, l[oneAsk], at(1, 59)), true}, {altered(t, s, l[oneAsk], at(1, 119)), false}, {altered(t, s, l[oneAsk], at(1, 120)), true}, {altered(t, s, l[oneAsk], at(1, 60*1012)), true}, {altered(t, s, l[oneAsk], at(1, 60*1014)), false},
			{reasked(t, s, l[oneAsk], func(x *api.Task) { x.Revoked = nil }), false}, {reasked(t, s, l[oneAsk], func(x *api.Task) { x.Revoked = upTo(16) }), false}, {reasked(t, s, l[oneAsk], func(x *api.Task) { x.Revoked = upTo(17) }), true}, {reasked(t, s, l[oneAsk], func(x *api.Task) { x.Revoked = []int{0} }), true}, {reasked(t, s, l[oneAsk], func(x *api.Task) { x.Revoked = []int{1013} }), true},
			{reasked(t, s, l[oneAsk], func(x *api.Task) { x.Version++ }), true}, {reasked(t, s, l[oneAsk], func(x *api.Task) { x.Question += " " }), true}, {reasked(t, s, l[oneAsk], func(x *api.Task) { x.Most++ }), true}, {reasked(t, s, l[oneAsk], func(x *api.Task) { x.Quorum-- }), true}, {reasked(t, s, l[oneAsk], func(x *api.Task) { x.Jurors++ }), true},
			{reasked(t, s, l[oneAsk], func(x *api.Task) { x.Passes = nil }), true}, {reasked(t, s, l[oneAsk], func(x *api.Task) { x.Passes[0].Pub = ticket.Public(s, secretP) }), true}, {reasked(t, s, l[oneAsk], func(x *api.Task) { x.Passes[0].Guests = nil }), true}, {reasked(t, s, l[oneAsk], func(x *api.Task) { x.Passes[0].Attrs = []string{"a"} }), true},
		} {
			t.Log(i)
			charge(api.RsTask, c.e, c.want)
		}
		// The door of the gate 2.
		x, _ := gate.Task(s, doors(s)[1], 70, nil, 49+number)
		charge(api.RsTask, seal(t, s, api.Entry{Gate: number, No: 5, Time: 70, Kind: api.EnAsk, Nums: []int{1, x.Dare}, Text: taskText(x)}), number != 2)
	}
}

// P8.12: the doors with which a charge is heard; a door that is not valid has no task.
func TestChargeDoors(t *testing.T) {
	s := middle()
	keys := keysOf(s, 1)
	a := api.Charge{Reason: api.RsTask, A: logOf(t, s, 0)[oneAsk]}
	bad := door(s)
	bad.Limit.Count = 0
	other := door(s)
	other.Limit.Length = 30
	later := door(s)
	later.Limit.Gate = 0
	for i, c := range []struct {
		doors []api.Door
		want  bool
	}{{doors(s), false}, {doors(s)[:1], false}, {nil, true}, {doors(s)[1:], true}, {[]api.Door{bad}, true}, {[]api.Door{other}, true}, {[]api.Door{later}, false}, {slices.Repeat(doors(s), 10), false}, {[]api.Door{door(s), bad}, false}} {
		if gate.Charged(s, keys, c.doors, a) != c.want || (len(gate.Charges(s, keys, c.doors, []api.Entry{a.A})) > 0) != c.want {
			t.Error(i)
		}
	}
}

// P8.12: charges with two entries.
func TestChargesOfTwo(t *testing.T) {
	s := middle()
	number := 1
	l := logOf(t, s, number)
	charge := func(reason int, a, b api.Entry, want bool) {
		t.Helper()
		judged(t, s, api.Charge{Gate: number, Reason: reason, A: a, B: b}, want)
	}
	edit := func(i int, change func(e *api.Entry)) api.Entry { return altered(t, s, l[i], change) }
	for _, a := range l {
		for _, b := range l {
			for reason := -1; reason <= api.RsKinds; reason++ {
				charge(reason, a, b, false)
			}
		}
	}
	// RsFork
	for i := range l {
		x := otherSignature(t, s, l[i])
		a, b := l[i], x
		if !precedes(a, b) {
			a, b = b, a
		}
		charge(api.RsFork, a, b, true)
		charge(api.RsFork, a, a, false)
	}
	charge(api.RsFork, l[oneSync], edit(oneHear, at(oneSync, 99)), precedes(l[oneSync], edit(oneHear, at(oneSync, 99))))
	charge(api.RsFork, l[oneSync], l[oneHear], false)
	// RsOrder
	charge(api.RsOrder, l[oneSync], edit(oneHear, at(oneHear, 61)), true)
	charge(api.RsOrder, l[oneSync], edit(oneHear, at(oneHear, 62)), false)
	charge(api.RsOrder, l[oneSync], edit(oneHear, at(oneSync, 61)), false)
	charge(api.RsOrder, edit(oneLearn, at(0, 500)), l[fourAsk], true)
	charge(api.RsOrder, edit(oneLearn, at(20, 500)), l[fourAsk], false)
	// RsDare
	dare := func(no, n int) api.Entry {
		return altered(t, s, reasked(t, s, l[oneAsk], func(x *api.Task) { x.Dare = n }), at(no, 61))
	}
	for a := range 4 {
		for b := range 4 {
			charge(api.RsDare, dare(3, 2+24*a), dare(4, 2+24*b), a >= b)
			charge(api.RsDare, dare(4, 2+24*a), dare(3, 2+24*b), false)
			charge(api.RsDare, dare(4, 2+24*a), dare(4, 2+24*b), false)
		}
	}
	charge(api.RsDare, dare(3, 700), dare(4, 699), true)
	charge(api.RsDare, dare(3, 50), edit(oneHear, func(e *api.Entry) { e.Nums[1] = 4 }), false)
	// RsAnswer
	refuse := func(no, ask int) api.Entry { return edit(oneRefuse, both(at(no, 64), first(ask))) }
	show := func(no, ask int) api.Entry { return edit(twoShow, both(at(no, 64), first(ask))) }
	for _, f := range []func(no, ask int) api.Entry{refuse, show} {
		for _, g := range []func(no, ask int) api.Entry{refuse, show} {
			charge(api.RsAnswer, f(5, 1), g(6, 1), true)
			charge(api.RsAnswer, f(5, 1), g(6, 2), false)
			charge(api.RsAnswer, f(6, 1), g(5, 1), false)
			charge(api.RsAnswer, f(5, 1), g(5, 1), false)
		}
	}
	charge(api.RsAnswer, show(5, 4), edit(oneSync, func(e *api.Entry) { e.No, e.Nums = 6, []int{4, 4} }), false)
	// RsBad
	wrong := func(change func(r *api.Record)) api.Entry {
		return edit(twoShow, func(e *api.Entry) {
			r := recordOf(*e)
			change(&r)
			e.Text = recordText(t, r)
		})
	}
	for _, f := range []func(r *api.Record){func(r *api.Record) { r.Spends[0].Dare++ }, func(r *api.Record) { *r = api.Record{} }, func(r *api.Record) { r.Links = nil }, func(r *api.Record) { r.Proof = api.Proof{} }} {
		charge(api.RsBad, l[twoAsk], wrong(f), true)
		charge(api.RsBad, l[oneAsk], wrong(f), false)
	}
	charge(api.RsBad, l[oneAsk], show(4, 1), true)
	charge(api.RsBad, l[twoAsk], show(9, 2), false)
	charge(api.RsBad, edit(twoAsk, at(3, 61)), show(4, 3), false)
	charge(api.RsBad, reasked(t, s, l[twoAsk], func(x *api.Task) { x.Version++ }), l[twoShow], true)
	charge(api.RsBad, reasked(t, s, l[twoAsk], func(x *api.Task) { x.Question = "" }), l[twoShow], true)
	charge(api.RsBad, edit(oneSync, at(2, 61)), l[twoShow], false)
	// RsTwice
	charge(api.RsTwice, l[twoShow], show(8, 2), true)
	charge(api.RsTwice, show(8, 2), l[twoShow], false)
	charge(api.RsTwice, l[twoShow], show(twoShow, 1), false)
	part := recordOf(l[twoShow])
	borrowed, own := part.Tickets[0], part.Links[0][0].Ticket
	for i, c := range []struct {
		r    api.Record
		want bool
	}{
		{api.Record{Tickets: []api.Ticket{own}, Spends: []api.Spend{{}}}, true}, {api.Record{Tickets: []api.Ticket{borrowed}, Spends: []api.Spend{{}}}, true}, {api.Record{Tickets: []api.Ticket{{}}, Links: [][]api.Link{{{}, {Ticket: borrowed}}}}, true}, {api.Record{Tickets: []api.Ticket{{}, {}}, Links: [][]api.Link{{{}}, {{Ticket: own}}}}, true},
		{api.Record{Tickets: []api.Ticket{{}, {Mark: own.Mark}}, Spends: []api.Spend{{}, {}}}, true}, {api.Record{Tickets: []api.Ticket{{Mark: own.Mark + 1, First: own.First, Z: own.Z}}, Spends: []api.Spend{{}}}, false},
		// A ticket without a spend is not spent; nor is one in a list of links beyond the tickets.
		{api.Record{Tickets: []api.Ticket{own}}, false}, {api.Record{Tickets: []api.Ticket{{}, own}, Spends: []api.Spend{{}}}, false}, {api.Record{Tickets: []api.Ticket{{}}, Links: [][]api.Link{{}, {{Ticket: own}}}}, false}, {api.Record{Links: [][]api.Link{{{Ticket: own}}}}, false}, {api.Record{}, false},
	} {
		t.Log(i)
		charge(api.RsTwice, l[twoShow], showing(t, s, number, 8, c.r), c.want)
	}
	charge(api.RsTwice, l[twoShow], edit(oneRecall, func(e *api.Entry) { e.Nums = []int{own.Mark} }), false)
	// RsStale
	old := func(no int, numbers ...int) api.Entry {
		return altered(t, s, reasked(t, s, l[threeAsk], func(x *api.Task) { x.Revoked = numbers }), at(no, 66))
	}
	charge(api.RsStale, l[oneLearn], old(9, 6), true)
	charge(api.RsStale, l[oneLearn], old(9, 77, 6), true)
	charge(api.RsStale, l[oneLearn], old(9, 6, 5, 77), false)
	charge(api.RsStale, l[twoLearn], old(9, 5, 77), true)
	charge(api.RsStale, l[twoLearn], old(7, 5, 77), false)
	charge(api.RsStale, l[twoLearn], old(8, 5, 77), false)
	charge(api.RsStale, l[oneRecall], old(9, 5, 77), false)
	// RsTerms
	charge(api.RsTerms, l[twoAsk], edit(twoShow, at(twoShow, 99)), false)
	charge(api.RsTerms, l[twoAsk], edit(twoShow, at(twoShow, 100)), true)
	charge(api.RsTerms, l[oneAsk], edit(twoShow, at(twoShow, 100)), false)
	charge(api.RsTerms, reasked(t, s, l[twoAsk], func(x *api.Task) { x.Question = "question r { p.a >= 1 }" }), l[twoShow], true)
	charge(api.RsTerms, reasked(t, s, l[twoAsk], func(x *api.Task) { x.Question = "no question" }), l[twoShow], true)
	for i, c := range []struct {
		question string
		links    [][]string
		want     bool
	}{
		{"question q { p.a >= 1 }", nil, false}, {"no question", [][]string{{"63;0:,"}}, false}, {"no question", [][]string{{"63;1:q,"}}, true}, {"question q { p.a >= 1 }", [][]string{{"62;0:,"}}, true}, {"question q { p.a >= 1 }", [][]string{{"x"}}, true}, {"question q { p.a >= 1 }", [][]string{{""}}, true},
		{"question q { p.a >= 1 }", [][]string{{"70;0:,", "69;1:q,"}, {"71;0:,"}}, false}, {"question q { p.a >= 1 }", [][]string{{"70;0:,", "71;1:q,"}}, true}, {"question q { p.a >= 1 }", [][]string{{"70;1:q,", "70;0:,"}}, true}, {"question q { p.a >= 1 }", [][]string{nil, {"70;1:q,"}, {"70;1:p,"}}, true},
	} {
		var r api.Record
		for _, list := range c.links {
			var links []api.Link
			for _, terms := range list {
				links = append(links, api.Link{Terms: terms})
			}
			r.Links = append(r.Links, links)
		}
		t.Log(i)
		b := altered(t, s, showing(t, s, number, 4, r), both(at(4, 63), first(2)))
		charge(api.RsTerms, reasked(t, s, l[twoAsk], func(x *api.Task) { x.Question = c.question }), b, c.want)
	}
	// RsRecall
	recall := func(no int, marks ...int) api.Entry {
		return edit(oneRecall, func(e *api.Entry) { e.No, e.Nums = no, marks })
	}
	charge(api.RsRecall, recall(3, own.Mark), l[twoShow], true)
	charge(api.RsRecall, recall(3, 4, own.Mark, 16), l[twoShow], own.Mark != 4 && own.Mark != 16)
	charge(api.RsRecall, recall(5, own.Mark), l[twoShow], false)
	charge(api.RsRecall, recall(4, own.Mark), l[twoShow], false)
	charge(api.RsRecall, recall(3, borrowed.Mark), l[twoShow], false)
	charge(api.RsRecall, recall(3, own.Mark), showing(t, s, number, 4, api.Record{Tickets: []api.Ticket{own}, Spends: []api.Spend{{}}}), false)
	charge(api.RsRecall, recall(3, own.Mark), showing(t, s, number, 4, api.Record{Links: [][]api.Link{nil, {{}, {Ticket: own}}}}), true)
	charge(api.RsRecall, recall(3, own.Mark), l[oneRefuse], false)
}

// P8.12: entries of two gates charge nobody.
func TestChargesOfGates(t *testing.T) {
	s := middle()
	a, b := logOf(t, s, 0), logOf(t, s, 1)
	for _, x := range a {
		for _, y := range b {
			for reason := range api.RsKinds {
				for number := range 2 {
					if gate.Charged(s, keysOf(s, 2), doors(s), api.Charge{Gate: number, Reason: reason, A: x, B: y}) {
						t.Error(x, y)
					}
				}
			}
		}
	}
}

// anyEntries returns entries of two gates, most of which have changes.
func anyEntries(t *testing.T, r *rand.Rand, s api.Setup, logs [][]api.Entry) []api.Entry {
	t.Helper()
	var all []api.Entry
	for range 2 + r.IntN(12) {
		l := logs[r.IntN(len(logs))]
		e, other := l[r.IntN(len(l))], l[r.IntN(len(l))]
		if r.IntN(2) == 0 {
			e, other = l[[]int{twoAsk, twoShow, twoShow, oneRefuse, oneRecall, threeShow}[r.IntN(6)]], l[[]int{twoShow, threeShow}[r.IntN(2)]]
		}
		e.Nums = slices.Clone(e.Nums)
		if e.Kind == api.EnRecall || e.Kind == api.EnLearn {
			e.No = r.IntN(4)
		}
		for range r.IntN(3) {
			change(t, r, s, &e, other)
		}
		if x, ok := gate.Seal(s, secretOf(e.Gate), e); ok {
			all = append(all, x)
		}
		all = append(all, other, l[twoAsk])
	}
	return all
}

// change changes something in an entry, which may have no form then.
func change(t *testing.T, r *rand.Rand, s api.Setup, e *api.Entry, other api.Entry) {
	t.Helper()
	switch r.IntN(9) {
	case 0:
		e.Time += r.IntN(81) - 20
	case 1:
		e.No = r.IntN(14)
	case 2:
		e.Nums[0] = r.IntN(12)
	case 3:
		if e.Kind == other.Kind {
			e.Text, e.Nums = other.Text, slices.Clone(other.Nums)
		}
	case 4, 5, 6, 7:
		changeText(t, r, e, other)
	case 8:
		e.Kind = r.IntN(7)
	}
}

// changeText changes what the text of an entry says, or what it recalls.
func changeText(t *testing.T, r *rand.Rand, e *api.Entry, other api.Entry) {
	t.Helper()
	switch e.Kind {
	case api.EnAsk:
		x := taskOf(*e)
		switch r.IntN(4) {
		case 0:
			x.Dare = 1 + r.IntN(60)
		case 1:
			x.Revoked = x.Revoked[:r.IntN(len(x.Revoked)+1)]
		case 2:
			x.Question = "question r { p.a >= 1 }"
		case 3:
			x.Version++
		}
		e.Nums, e.Text = []int{e.Nums[0], x.Dare}, taskText(x)
	case api.EnShow:
		x := recordOf(*e)
		switch r.IntN(3) {
		case 0:
			x.Spends = append([]api.Spend{{Dare: 3}}, x.Spends...)
		case 1:
			x.Spends = nil
		case 2:
			x.Links = append(x.Links, []api.Link{{Terms: "80;0:,", Ticket: api.Ticket{Mark: 4}}})
		}
		e.Text = recordText(t, x)
	case api.EnRecall:
		if other.Kind == api.EnShow {
			for _, x := range slices.Concat(recordOf(other).Links...) {
				e.Nums = append(e.Nums[:1], x.Ticket.Mark)
			}
		}
	}
}

// P8.12: random entries, against the definition: all charges that hold, in order, and no others.
func TestChargesAny(t *testing.T) {
	r, s := random(), middle()
	keys := keysOf(s, 3)
	logs := [][]api.Entry{logOf(t, s, 0), logOf(t, s, 2)}
	count := map[int]int{}
	for round := range 150 {
		l := anyEntries(t, r, s, logs)
		d := doors(s)[:1+r.IntN(3)]
		got, want := gate.Charges(s, keys, d, l), chargesOf(s, keys, d, l)
		if !slices.EqualFunc(got, want, func(a, b api.Charge) bool { return chargeText(a) == chargeText(b) }) {
			t.Fatal(round, got, want)
		}
		for _, x := range got {
			count[x.Reason]++
		}
		if round%10 > 0 {
			continue
		}
		all := append(joinedOf(s, keys, l), api.Entry{}, logs[0][4])
		for _, a := range all {
			for _, b := range all {
				for reason := range api.RsKinds {
					c := api.Charge{Gate: r.IntN(3), Reason: reason, A: a, B: b}
					if gate.Charged(s, keys, d, c) != holds(s, keys, d, c) {
						t.Fatal(c)
					}
				}
			}
		}
	}
	for reason := range api.RsKinds {
		if count[reason] < 12 {
			t.Error(reason, count)
		}
	}
}

// renumbered returns entries with the numbers of their indices, which their gate has signed. What has no form then is replaced.
func renumbered(t *testing.T, s api.Setup, l []api.Entry) []api.Entry {
	t.Helper()
	var all []api.Entry
	for i, e := range l {
		e.No = i
		if !formed(s, e) {
			e.Kind, e.Nums, e.Text = api.EnSync, []int{7, 7}, ""
		}
		all = append(all, seal(t, s, e))
	}
	return all
}

// P8.19, T10: whoever publishes a log in which the entry of a receipt is missing, changed or shifted is charged by the receipt, if there is another entry with its number.
func TestReceipts(t *testing.T) {
	s := middle()
	for number := range 3 {
		l := logOf(t, s, number)
		keys := keysOf(s, 3)
		for i, receipt := range l {
			dropped := renumbered(t, s, slices.Concat(l[:i], l[i+1:]))
			forged := slices.Clone(l)
			forged[i] = seal(t, s, api.Entry{Gate: number, No: i, Time: l[i].Time, Kind: api.EnSync, Nums: []int{5, 5}})
			invented := renumbered(t, s, slices.Insert(slices.Clone(l), i, api.Entry{Gate: number, Time: l[i].Time, Kind: api.EnSync, Nums: []int{6, 6}}))
			for k, published := range [][]api.Entry{dropped, forged, invented} {
				var reasons []int
				for _, c := range gate.Charges(s, keys, doors(s), append(published, receipt)) {
					if c.Reason == api.RsFork && c.A.No == i && c.Gate == number && gate.Charged(s, keys, doors(s), c) {
						reasons = append(reasons, c.Reason)
					}
				}
				// If the last entry is dropped, no other has its number.
				if want := k > 0 || i < len(l)-1; (len(reasons) > 0) != want {
					t.Error(number, i, k, reasons)
				}
			}
			if c := gate.Charges(s, keys, doors(s), append(slices.Clone(l), receipt)); len(c) > 0 {
				t.Error("charged", c[0].Reason)
			}
		}
	}
}

// P8.16, P8.17, P8.18, T10: gates that work as they should, whose machines crash, and whose syncs are lost, are never charged, whatever is published of them when, and joined with entries of others; no two of them ask with one challenge, and receipts remain.
func TestHonestGates(t *testing.T) {
	for round := range 6 {
		r := rand.New(rand.NewPCG(4, uint64(round)))
		s := middle()
		keys := keysOf(s, 4)
		var published, receipts []api.Entry
		dares := map[int]bool{}
		for number := range 3 {
			x := newPair(t, s, number, map[string]int{})
			for range 200 {
				if r.IntN(12) == 0 {
					x.trouble(r)
				}
				if !x.up() {
					t.Fatal("up")
				}
				before := len(x.g.Log())
				if name, ok := x.call(r); !ok {
					t.Fatal(name)
				}
				l := x.g.Log()
				if len(l) > before {
					e := l[len(l)-1]
					receipts = append(receipts, e)
					if e.Kind == api.EnAsk && dares[e.Nums[1]] {
						t.Error("the same challenge", e.Nums)
					} else if e.Kind == api.EnAsk {
						dares[e.Nums[1]] = true
					}
				}
				if r.IntN(10) == 0 {
					published = append(published, l...)
				}
			}
			for x.d.Down() {
				x.up()
			}
			published = append(published, x.g.Log()...)
		}
		for _, e := range receipts {
			if !slices.ContainsFunc(published, func(x api.Entry) bool { return entryText(x) == entryText(e) }) {
				t.Error("a receipt is gone", e)
			}
		}
		// The gate 3 signs whatever it likes, also in the name of others.
		for range 40 {
			e := published[r.IntN(len(published))]
			if r.IntN(2) == 0 {
				e.Gate = 3
			}
			e.No = r.IntN(30)
			if x, ok := gate.Seal(s, secretOf(3), e); ok {
				published = append(published, x)
			}
			e.Sig.S++
			published = append(published, e)
		}
		l := gate.Join(s, keys, shuffled(r, published, 2), shuffled(r, receipts, 1))
		charged := 0
		for _, c := range gate.Charges(s, keys, doors(s), l) {
			if charged++; c.Gate != 3 {
				t.Error("an honest gate is charged", c.Gate, c.Reason)
			}
		}
		if charged == 0 || len(dares) < 20 {
			t.Error(charged, len(dares))
		}
	}
}

// T1, P8.17: a gate accepts the showing of an honest holder exactly if the question is true, the holder is not revoked as far as the gate knows, and there is a ticket that it has not seen.
func TestAcceptance(t *testing.T) {
	r, s := random(), middle()
	admissions, refusals := 0, 0
	for range 25 {
		g := open(t, base.NewDisk(), s, 2, doors(s)...)
		seen := map[api.Ticket]bool{}
		var pool []api.Held
		for i := range 6 {
			pool = append(pool, issue(r, s, secretP, 0, 20+i, min(1, i), 0))
		}
		var known []int
		for range 12 {
			if r.IntN(4) == 0 {
				if n := 20 + r.IntN(20); g.Learn(5, []int{n}) == api.OK {
					known = append(known, n)
				}
			}
			no, x := asked(t, g, 5, r.IntN(2))
			h := pool[r.IntN(6)]
			isTrue := h.Attrs[1] >= 1 || x.Version == 4
			may := isTrue && !slices.Contains(known, h.Attrs[0]) && !seen[h.Ticket]
			var record api.Record
			if isTrue && !slices.Contains(known, h.Attrs[0]) {
				record = shown(t, s, x, h)
			}
			e, f := g.Admit(5, no, record)
			if (f == api.OK) != may || isAnswer(e) != may {
				t.Error(f, may)
			}
			if may {
				seen[h.Ticket] = true
				admissions++
			} else {
				refusals++
			}
		}
	}
	if admissions < 50 || refusals < 50 {
		t.Error(admissions, refusals)
	}
}
