package gate_test

import (
	"fmt"
	"math/rand/v2"
	"slices"
	"testing"

	"cloak/api"
	"cloak/base"
	"cloak/field"
	"cloak/gate"
	"cloak/ticket"
)

// exposuresText returns a text that determines exposures.
func exposuresText(l []api.Exposure) string {
	s := ""
	for _, x := range l {
		s += fmt.Sprintln(x.Ticket, x.A.Dare, x.A.Answers, x.B.Dare, x.B.Answers, x.Attrs)
	}
	return s
}

// pastOf returns the past of a gate.
func pastOf(s api.Setup, keys []int, l []api.Entry, number int) []api.Entry {
	var past []api.Entry
	for no := range 4096 {
		var same []api.Entry
		for _, e := range joinedOf(s, keys, l) {
			if e.Gate == number && e.No == no {
				same = append(same, e)
			}
		}
		if len(same) != 1 {
			break
		}
		past = append(past, same[0])
	}
	return past
}

// shuffled returns a list in another order, in which some elements may be missing, or stand several times.
func shuffled[T any](r *rand.Rand, l []T, most int) []T {
	var all []T
	for _, i := range r.Perm(len(l)) {
		for range min(1, most) + r.IntN(max(1, most)) {
			all = append(all, l[i])
		}
	}
	return all
}

// threeLogs returns the logs of the gates 0, 1 and 2, of 12 entries each.
func threeLogs(t *testing.T, s api.Setup) []api.Entry {
	t.Helper()
	return slices.Concat(logOf(t, s, 0), logOf(t, s, 1), logOf(t, s, 2))
}

// P8.10: logs of several gates, in any order, with entries that stand there several times, or are not signed.
func TestJoin(t *testing.T) {
	r, s := random(), middle()
	keys, all := keysOf(s, 3), threeLogs(t, s)
	stranger, notSigned := logOf(t, s, 4), slices.Clone(all[3:7])
	for i := range notSigned {
		notSigned[i].Sig.S ^= 1
	}
	for range 30 {
		l := shuffled(r, slices.Concat(all, all[:5], stranger, notSigned), 2)
		n := r.IntN(len(l))
		if got := gate.Join(s, keys, l[:n], l[n:]); listText(got) != listText(all) {
			t.Fatal(listText(got))
		}
	}
	if got := gate.Join(s, keysOf(s, 24), stranger, all); listText(got) != listText(slices.Concat(all, stranger)) {
		t.Error(len(got))
	}
	if a, b := gate.Join(s, keys[:1], all, nil), gate.Join(s, nil, all, all); listText(a) != listText(all[:12]) || len(b) != 0 {
		t.Error(len(a), len(b))
	}
	for _, not := range notSetups() {
		if len(gate.Join(not, keys, all, all))+len(gate.Past(not, keys, all, 0))+len(gate.Exposed(not, keys, all)) > 0 {
			t.Error(not)
		}
	}
	if len(gate.Join(s, keys, nil, nil)) > 0 {
		t.Error("nothing")
	}
}

// P8.10: entries with one number are ordered by their encodings, byte by byte; gates and numbers are compared as numbers.
func TestOrder(t *testing.T) {
	s := middle()
	sync := func(number, no, time, high int) api.Entry {
		return seal(t, s, api.Entry{Gate: number, No: no, Time: time, Kind: api.EnSync, Nums: []int{0, high}})
	}
	want := []api.Entry{sync(2, 9, 100, 0), sync(2, 9, 20, 0), sync(2, 9, 20, 10), sync(2, 9, 20, 2), sync(2, 9, 3, 0), sync(2, 10, 0, 0), sync(10, 0, 0, 0), sync(10, 5, 0, 0), sync(10, 40, 0, 0)}
	if !slices.IsSortedFunc(want, func(a, b api.Entry) int {
		if precedes(a, b) {
			return -1
		}
		return 1
	}) {
		t.Fatal("not in order")
	}
	r := random()
	for range 20 {
		if got := gate.Join(s, keysOf(s, 11), shuffled(r, want, 1), nil); listText(got) != listText(want) {
			t.Fatal(listText(got))
		}
	}
	// What is signed twice, by different random numbers, is two entries.
	x := want[0]
	y := otherSignature(t, s, x)
	if got := gate.Join(s, keysOf(s, 11), []api.Entry{x, y}, []api.Entry{y, x}); len(got) != 2 {
		t.Error(len(got))
	}
}

// otherSignature returns an entry with another signature of its gate.
func otherSignature(t *testing.T, s api.Setup, e api.Entry) api.Entry {
	t.Helper()
	for k := 77; ; k++ {
		x := signedWith(s, secretOf(e.Gate), k, e)
		if !gate.Signed(s, keysOf(s, 24), x) {
			t.Fatal("not signed")
		}
		if x.Sig != e.Sig {
			return x
		}
	}
}

// P8.10: pasts end at the first number that is missing, or that two entries have.
func TestPast(t *testing.T) {
	r, s := random(), middle()
	keys, all := keysOf(s, 3), threeLogs(t, s)
	for number := -1; number < 5; number++ {
		want := []api.Entry(nil)
		if within(number, 0, 2) {
			want = all[12*number : 12*number+12]
		}
		if got := gate.Past(s, keys, shuffled(r, all, 3), number); listText(got) != listText(want) {
			t.Error(number, len(got))
		}
	}
	for no := range 12 {
		missing := slices.Delete(slices.Clone(all), 12+no, 13+no)
		fork := append(slices.Clone(all), otherSignature(t, s, all[12+no]))
		notSigned := append(slices.Clone(all), all[12+no])
		notSigned[len(all)].Sig.C ^= 1
		for i, l := range [][]api.Entry{missing, fork, notSigned} {
			want := 12 + no
			if i == 2 {
				want = 24
			}
			if got := gate.Past(s, keys, shuffled(r, l, 1), 1); listText(got) != listText(all[12:want]) || listText(got) != listText(pastOf(s, keys, l, 1)) {
				t.Error(no, i, len(got))
			}
		}
	}
}

// showing returns an EnShow of a gate for whatever record.
func showing(t *testing.T, s api.Setup, number, no int, r api.Record) api.Entry {
	t.Helper()
	return seal(t, s, api.Entry{Gate: number, No: no, Time: 5, Kind: api.EnShow, Nums: []int{0}, Text: recordText(t, r)})
}

// spendOf returns the spend of a ticket for a challenge.
func spendOf(t *testing.T, s api.Setup, h api.Held, dare int) api.Spend {
	t.Helper()
	x, ok := ticket.Use(s, h.Attrs, h.Blinding, dare)
	if !ok {
		t.Fatal("no spend")
	}
	return x
}

// turned returns another spend with the same challenge, which is accepted as well: somebody who knows that 16 is 4 to the power of 2 can make it.
func turned(s api.Setup, x api.Spend, by int) api.Spend {
	q := s.Group.Q
	x.Answers = slices.Clone(x.Answers)
	x.Answers[0] = field.Add(q, x.Answers[0], 2*by)
	x.Answers[2] = field.Sub(q, x.Answers[2], by)
	return x
}

// P8.11: which spends count, and which of them are named.
func TestExposed(t *testing.T) {
	r, s := random(), middle()
	keys := keysOf(s, 3)
	a, b := adult(r, s, secretP, 1, 20), adult(r, s, secretP, 1, 21)
	record := func(h api.Held, x api.Spend) api.Record {
		return api.Record{Tickets: []api.Ticket{h.Ticket}, Spends: []api.Spend{x}}
	}
	use := func(h api.Held, dare int) api.Record { return record(h, spendOf(t, s, h, dare)) }
	linked := func(x api.Held, dare int) api.Record {
		return api.Record{Tickets: []api.Ticket{b.Ticket}, Links: [][]api.Link{{{Ticket: x.Ticket, Spend: spendOf(t, s, x, dare)}}}}
	}
	changed := func(r api.Record) api.Record {
		r.Tickets[0].R ^= 1
		return r
	}
	wrong := func(r api.Record) api.Record {
		r.Spends[0].Answers[3] ^= 1
		return r
	}
	outside := linked(a, 9)
	outside.Links = [][]api.Link{nil, outside.Links[0]}
	spends := [][2]int{} // of the exposed ticket: the challenges of A and B
	for i, c := range []struct {
		l    []api.Record
		want [][2]int
	}{
		{[]api.Record{use(a, 5), use(a, 9)}, [][2]int{{5, 9}}}, {[]api.Record{use(a, 9), use(a, 5), use(a, 7)}, [][2]int{{9, 5}}}, {[]api.Record{use(a, 5), use(a, 5)}, nil}, {[]api.Record{use(a, 5), use(b, 9)}, nil},
		{[]api.Record{use(a, 5), use(b, 7), use(b, 3), use(a, 9)}, [][2]int{{5, 9}, {7, 3}}}, {[]api.Record{use(b, 5), use(a, 7), use(a, 3), use(b, 9)}, [][2]int{{5, 9}, {7, 3}}},
		{[]api.Record{use(a, 5), linked(a, 9)}, [][2]int{{5, 9}}}, {[]api.Record{linked(a, 9), linked(a, 5)}, [][2]int{{9, 5}}}, {[]api.Record{use(a, 5), outside}, nil}, {[]api.Record{linked(b, 7), use(b, 8)}, [][2]int{{7, 8}}},
		// Tickets that differ, and spends that are not accepted.
		{[]api.Record{use(a, 5), changed(use(a, 9))}, nil}, {[]api.Record{use(a, 5), wrong(use(a, 9))}, nil}, {[]api.Record{wrong(use(a, 5)), use(a, 9), use(a, 7)}, [][2]int{{9, 7}}}, {[]api.Record{use(a, 5), wrong(use(a, 9)), use(a, 7)}, [][2]int{{5, 7}}},
		{[]api.Record{wrong(use(a, 5)), use(b, 4), use(a, 6), use(a, 7), use(b, 8)}, [][2]int{{4, 8}, {6, 7}}},
		// Spends with different answers for one challenge reveal nothing.
		{[]api.Record{use(a, 5), record(a, turned(s, spendOf(t, s, a, 5), 3))}, nil}, {[]api.Record{use(a, 5), record(a, turned(s, spendOf(t, s, a, 5), 3)), use(a, 9)}, [][2]int{{5, 9}}},
		{nil, nil}, {[]api.Record{{}, {Spends: []api.Spend{{Dare: 3}}}, {Tickets: []api.Ticket{a.Ticket}}, use(a, 6), {Links: [][]api.Link{{{Ticket: a.Ticket, Spend: spendOf(t, s, a, 9)}}}}}, nil},
	} {
		var l []api.Entry
		for k, x := range c.l {
			l = append(l, showing(t, s, 1, 1+k, x))
		}
		got := gate.Exposed(s, keys, shuffled(r, l, 2))
		spends = spends[:0]
		for _, x := range got {
			spends = append(spends, [2]int{x.A.Dare, x.B.Dare})
			h := a
			if x.Ticket.Mark == b.Ticket.Mark {
				h = b
			}
			if x.Ticket != h.Ticket || !slices.Equal(x.Attrs, h.Attrs) || !ticket.Guilty(s, x.Ticket, x.A, x.B, x.Attrs) {
				t.Error(i, x)
			}
		}
		if !slices.Equal(spends, c.want) || exposuresText(got) != exposuresText(exposuresOf(s, keys, l)) {
			t.Error(i, spends)
		}
		if len(gate.Exposed(s, keys[:1], l)) > 0 {
			t.Error(i, "not signed")
		}
	}
}

// P8.11: two spends with equal first answers reveal nothing; the first later one that does is named.
func TestExposedLater(t *testing.T) {
	r, s := random(), middle()
	keys := keysOf(s, 1)
	h := adult(r, s, secretP, 1, 20)
	a, b, c := spendOf(t, s, h, 5), spendOf(t, s, h, 7), spendOf(t, s, h, 9)
	half := field.Mul(1013, field.Sub(1013, a.Answers[0], b.Answers[0]), field.Pow(1013, 2, -1))
	b = turned(s, b, half)
	if b.Answers[0] != a.Answers[0] || !ticket.Accepts(s, h.Ticket, b) {
		t.Fatal(a, b)
	}
	list := func(l ...api.Spend) []api.Entry {
		var all []api.Entry
		for i, x := range l {
			all = append(all, showing(t, s, 0, 1+i, api.Record{Tickets: []api.Ticket{h.Ticket}, Spends: []api.Spend{x}}))
		}
		return all
	}
	if l := gate.Exposed(s, keys, list(a, b)); len(l) > 0 {
		t.Error(l)
	}
	if l := gate.Exposed(s, keys, list(a, b, c)); len(l) != 1 || l[0].A.Dare != 5 || l[0].B.Dare != 9 || !slices.Equal(l[0].Attrs, h.Attrs) {
		t.Error(l)
	}
	// A is always the first spend.
	if l := gate.Exposed(s, keys, list(a, b, turned(s, a, 3))); len(l) > 0 {
		t.Error(l)
	}
}

// anyUses returns signed entries of three gates with the showings of a few tickets: some of them for the same challenge, not accepted, changed, lent, or with too few or too many links and spends.
func anyUses(t *testing.T, r *rand.Rand, s api.Setup, pool []api.Held) []api.Entry {
	t.Helper()
	var all []api.Entry
	for range 1 + r.IntN(12) {
		var x api.Record
		for range r.IntN(3) {
			h := pool[r.IntN(len(pool))]
			spend := spendOf(t, s, h, 3+r.IntN(4))
			switch r.IntN(6) {
			case 0:
				spend = turned(s, spend, r.IntN(3))
			case 1:
				spend.Answers[r.IntN(4)] = r.IntN(1013)
			case 2:
				h.Ticket.R = r.IntN(1013)
			}
			x.Tickets = append(x.Tickets, h.Ticket)
			if r.IntN(5) > 0 {
				x.Spends = append(x.Spends, spend)
			}
			y := pool[r.IntN(len(pool))]
			for range r.IntN(3) {
				x.Links = append(x.Links, []api.Link{{Ticket: y.Ticket, Spend: spendOf(t, s, y, 500+r.IntN(3))}})
			}
		}
		all = append(all, showing(t, s, r.IntN(3), 1+r.IntN(9), x))
	}
	return all
}

// P8.10, P8.11: random lists, against the definitions.
func TestMergeAny(t *testing.T) {
	r, s := random(), middle()
	exposed := 0
	for range 150 {
		var pool []api.Held
		for i := range 3 {
			pool = append(pool, adult(r, s, secretP, 0, 20+i))
		}
		l := anyUses(t, r, s, pool)
		l = append(l, anyUses(t, r, s, pool)...)
		l[r.IntN(len(l))].Sig.C ^= 1
		l = shuffled(r, l, 2)
		keys := keysOf(s, 2+r.IntN(2))
		n := r.IntN(len(l))
		if a, b := gate.Join(s, keys, l[:n], l[n:]), joinedOf(s, keys, l); listText(a) != listText(b) {
			t.Fatal(listText(a), listText(b))
		}
		a, b := gate.Exposed(s, keys, l), exposuresOf(s, keys, l)
		if exposuresText(a) != exposuresText(b) {
			t.Fatal(a, b)
		}
		exposed += len(a)
		for number := range 4 {
			if a, b := gate.Past(s, keys, l, number), pastOf(s, keys, l, number); listText(a) != listText(b) {
				t.Fatal(a, b)
			}
		}
	}
	if exposed < 100 || exposed > 440 {
		t.Error(exposed)
	}
}

// P8.20, T6: lists are merged in any order, repeatedly, and in parts.
func TestMergeOrder(t *testing.T) {
	r, s := random(), middle()
	keys := keysOf(s, 3)
	for range 40 {
		var all []api.Entry
		for number := range 4 {
			l := logOf(t, s, number)
			all = append(all, l[:r.IntN(len(l)+1)]...)
			all = append(all, otherSignature(t, s, l[r.IntN(len(l))]))
		}
		all = append(all, anyUses(t, r, s, []api.Held{adult(r, s, secretP, 0, 20)})...)
		join := func(a, b []api.Entry) []api.Entry { return gate.Join(s, keys, a, b) }
		a, b, c := shuffled(r, all, 1)[:len(all)/2], shuffled(r, all, 2)[len(all)/2:], shuffled(r, all, 1)[:5]
		ab := join(a, b)
		if listText(ab) != listText(join(b, a)) || listText(join(ab, c)) != listText(join(a, join(b, c))) || listText(join(ab, ab)) != listText(ab) || listText(join(ab, a)) != listText(ab) || listText(join(nil, ab)) != listText(ab) {
			t.Fatal("not a merge")
		}
		// What is read from a list does not change if it is joined before.
		l := slices.Concat(a, b)
		x, e := gate.Bounds(s, keys, l, 100)
		y, f := gate.Bounds(s, keys, ab, 100)
		if exposuresText(gate.Exposed(s, keys, l)) != exposuresText(gate.Exposed(s, keys, ab)) || listText(gate.Past(s, keys, l, 1)) != listText(gate.Past(s, keys, ab, 1)) || !slices.Equal(x, y) || e != f {
			t.Fatal("another state")
		}
		charges := gate.Charges(s, keys, doors(s), ab)
		if !slices.EqualFunc(gate.Charges(s, keys, doors(s), l), charges, func(a, b api.Charge) bool { return chargeText(a) == chargeText(b) }) {
			t.Fatal("other charges")
		}
		// Further entries remove no charge, and no exposure of a ticket that is spent again.
		more := gate.Charges(s, keys, doors(s), join(ab, c))
		for _, x := range charges {
			if !slices.ContainsFunc(more, func(y api.Charge) bool { return chargeText(x) == chargeText(y) }) {
				t.Fatal("a charge is gone")
			}
		}
	}
}

// P8.20, T3: of the tickets that were shown at several gates, exactly those that were spent for different challenges are exposed, with the attributes of the holder, once all logs are joined.
func TestExposure(t *testing.T) {
	for round, s := range []api.Setup{middle(), middle(), large()} {
		r := rand.New(rand.NewPCG(9, uint64(round)))
		keys := keysOf(s, 4)
		var gates []*gate.Gate
		for number := range 4 {
			gates = append(gates, open(t, base.NewDisk(), s, number, doors(s)...))
		}
		spends := map[api.Ticket]map[int]bool{}
		owner := map[api.Ticket][]int{}
		var pool []api.Held
		for i := range 12 {
			h := adult(r, s, secretP, 1, 20+i)
			owner[h.Ticket] = h.Attrs
			if i%4 == 3 {
				// The lender of this one may also use it, or lend it twice.
				from := pool[r.IntN(3)]
				h = lend(s, from, h, "2147483648;0:,")
			}
			pool = append(pool, h)
		}
		for range 24 {
			g, h := gates[r.IntN(4)], pool[r.IntN(len(pool))]
			no, x := asked(t, g, 70, 0)
			receipt, e := g.Admit(70, no, shown(t, s, x, h))
			if e == api.ErrTwice {
				continue
			} else if e != api.OK {
				t.Fatal(e)
			}
			for _, y := range spendsOf(recordOf(receipt)) {
				if spends[y.ticket] == nil {
					spends[y.ticket] = map[int]bool{}
				}
				spends[y.ticket][y.spend.Dare] = true
			}
		}
		var l []api.Entry
		for _, g := range shuffled(r, gates, 2) {
			l = gate.Join(s, keys, g.Log(), l)
		}
		got := gate.Exposed(s, keys, l)
		want := 0
		for _, dares := range spends {
			if len(dares) > 1 {
				want++
			}
		}
		for _, x := range got {
			if len(spends[x.Ticket]) < 2 || !slices.Equal(x.Attrs, owner[x.Ticket]) || !ticket.Guilty(s, x.Ticket, x.A, x.B, x.Attrs) {
				t.Error(x)
			}
		}
		if len(got) != want || want < 3 || want == len(spends) {
			t.Error(len(got), want, len(spends))
		}
		if c := gate.Charges(s, keys, doors(s), l); len(c) > 0 {
			t.Error("charged", c[0].Reason)
		}
	}
}
