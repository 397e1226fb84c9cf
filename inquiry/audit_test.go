package inquiry_test

import (
	"slices"
	"testing"

	"cloak/api"
	"cloak/gate"
	"cloak/inquiry"
)

// P10.9: the document's examples.
func TestAuditExamples(t *testing.T) {
	s := middle().s
	if l, e := inquiry.Audit(s, api.Books{}); e != api.OK || len(l) > 0 {
		t.Error(l, e)
	}
	b := api.Books{Limits: []api.Limit{{Count: 1, Gate: api.None}}, Grants: []api.Left{{Count: 1}, {Count: 1}}, Holders: []int{4, 4}}
	if l, e := inquiry.Audit(s, b); e != api.OK || !slices.Equal(l, []api.Finding{{Kind: api.FiLimit, A: 4}}) {
		t.Error(l, e)
	}
}

// P10.9, P10.17, T10: in a village in which all is as it should be there is nothing to find.
func TestNothingToFind(t *testing.T) {
	for _, w := range []*world{middle(), large()} {
		v := w.busy(t)
		if l := v.audit(t); len(l) > 0 || len(v.books.Openings) != 4 || len(v.books.Entries) != 13 {
			t.Error(l, len(v.books.Entries))
		}
		// Later votes of others, and votes about other uses, change nothing.
		v.books.Votes = append(v.books.Votes, v.voted(t, 0, 3, "theft"), v.voted(t, 0, 1, "theft"), v.voted(t, 1, 0, "theft"), v.voted(t, 2, 0, "alarm"))
		if l := v.audit(t); len(l) > 0 {
			t.Error(l)
		}
		// Neither do repeated entries, or those that nobody has signed, or another order.
		v.books.Entries = append(v.books.Entries, v.books.Entries...)
		bad := v.uses[0].receipt
		bad.Text = v.uses[1].receipt.Text
		v.books.Entries = append(v.books.Entries, bad, api.Entry{})
		slices.Reverse(v.books.Entries)
		if l := v.audit(t); len(l) > 0 {
			t.Error(l)
		}
	}
}

// P10.9: charges and exposures, each once.
func TestChargesAndExposures(t *testing.T) {
	v := middle().busy(t)
	charge := func(number, reason int) api.Finding {
		return api.Finding{Kind: api.FiCharge, A: number, B: reason}
	}
	// Two gates that both see a ticket expose its holder.
	held := v.grant(1, 200, 305)
	v.visit(t, 0, 1, 200, held)
	v.visit(t, 2, 1, 210, held)
	v.visit(t, 1, 1, 210, held)
	again := v.grant(1, 200, 7)
	v.visit(t, 0, 1, 220, again)
	v.visit(t, 2, 1, 220, again)
	exposed := []api.Finding{{Kind: api.FiExposed, A: 7}, {Kind: api.FiExposed, A: 305}}
	if l := v.audit(t); !slices.Equal(l, exposed) {
		t.Error(l)
	}
	// The same holder with another ticket is the same finding.
	more := v.grant(1, 200, 305)
	v.visit(t, 0, 1, 230, more)
	v.visit(t, 1, 1, 230, more)
	if l := v.audit(t); !slices.Equal(l, exposed) {
		t.Error(l)
	}
	// A gate that contradicts itself several times is charged once for each reason.
	end := len(v.gates[1].Log())
	for _, low := range []int{3, 4, 5} {
		v.books.Entries = append(v.books.Entries, v.sealed(t, api.Entry{Gate: 1, No: end, Time: 5, Kind: api.EnSync, Nums: []int{low, 9}}))
	}
	v.books.Entries = append(v.books.Entries, v.sealed(t, api.Entry{Gate: 0, No: 90, Time: 5, Kind: api.EnSync, Nums: []int{1, 9}}))
	want := append([]api.Finding{charge(0, api.RsOrder), charge(1, api.RsFork), charge(1, api.RsOrder)}, exposed...)
	if l := v.audit(t); !slices.Equal(l, want) {
		t.Error(l)
	}
	// What is not signed by the gate convicts nobody.
	if l := v.audit(t, func(b *api.Books) { b.Gates[1] = b.Gates[2] }); slices.Contains(l, charge(1, api.RsFork)) {
		t.Error(l)
	}
}

// T10, P10.17: entries that were dropped, invented or shifted are found by receipts. Further entries remove no charge.
func TestReceipts(t *testing.T) {
	v := middle().busy(t)
	fork := api.Finding{Kind: api.FiCharge, A: 0, B: api.RsFork}
	log := v.gates[0].Log()
	receipt := log[3]
	if receipt.Kind != api.EnShow {
		t.Fatal(receipt)
	}
	// The gate publishes a log in which each later entry, if there is any, has a smaller number.
	dropped := slices.Clone(log[:3])
	for _, e := range log[4:] {
		e.No--
		if e.Kind == api.EnShow {
			e.Nums = []int{e.No - 1}
		}
		dropped = append(dropped, v.sealed(t, e))
	}
	invented := slices.Clone(log)
	invented[3] = v.sealed(t, api.Entry{Gate: 0, No: 3, Time: receipt.Time, Kind: api.EnRefuse, Nums: []int{2, 13}})
	shifted := slices.Clone(log)
	shifted[3].Time++
	shifted[3] = v.sealed(t, shifted[3])
	for i, l := range [][]api.Entry{dropped, invented, shifted} {
		for _, number := range []int{1, 2} {
			l = append(l, v.gates[number].Log()...)
		}
		before := v.audit(t, func(b *api.Books) { b.Entries, b.Openings = l, nil })
		if slices.Contains(before, fork) {
			t.Error(i, before)
		}
		after := v.audit(t, func(b *api.Books) { b.Entries, b.Openings = append(l, receipt), nil })
		if !slices.Contains(after, fork) {
			t.Error(i, after)
		}
		for _, x := range before {
			if x.Kind == api.FiCharge && !slices.Contains(after, x) {
				t.Error(i, x)
			}
		}
		for _, x := range after {
			if x.Kind == api.FiCharge && x.A != 0 {
				t.Error(i, x) // an honest gate
			}
		}
	}
}

// P10.9, P10.17: doors and labels.
func TestLabels(t *testing.T) {
	v := middle().busy(t)
	label := func(door int, e api.Errno) api.Finding {
		return api.Finding{Kind: api.FiLabel, A: door, B: int(e)}
	}
	names := "x.a <= 1 and x.b <= 1 and x.c <= 1 and x.d <= 1 and x.e <= 1 and x.f <= 1 and x.g <= 1"
	for i, c := range []struct {
		labels []string
		want   []api.Finding
	}{
		{nil, []api.Finding{label(0, api.OK), label(1, api.OK)}},
		{v.books.Labels[:1], []api.Finding{label(1, api.OK)}},
		{v.books.Labels[1:], []api.Finding{label(0, api.OK)}},
		{[]string{"question x { id.age < 18 }", "question x { id.zone = 1 }", "question x { id.age >= 60 }"}, nil},
		{[]string{"question x { id.age >= 18 }", "question x { id.zone = 1 }"}, []api.Finding{label(1, api.OK)}},
		{[]string{"question x { id.age >= 19 }"}, []api.Finding{label(0, api.OK), label(1, api.OK)}},
		{[]string{v.books.Labels[0], "question x { " + names + " }"}, []api.Finding{label(1, api.ErrFull)}},
		{[]string{v.books.Labels[0], "question x { " + names + " and x.h <= 1 }"}, []api.Finding{label(0, api.ErrFull), label(1, api.ErrFull)}},
	} {
		if l := v.audit(t, func(b *api.Books) { b.Labels = c.labels }); !slices.Equal(l, c.want) {
			t.Error(i, l)
		}
	}
	// Up to Most of the task the question may tell no more than a label does, beyond it it does.
	edge := func(most int) []api.Finding {
		return v.audit(t, func(b *api.Books) {
			b.Labels = append(b.Labels, "question x { id.age >= 18 and id.zone <= 50 }")
			b.Labels = b.Labels[1:]
			b.Doors[0].Task.Most = most
			b.Entries, b.Openings = nil, nil
		})
	}
	if l := edge(50); len(l) > 0 {
		t.Error(l)
	}
	if l := edge(51); !slices.Equal(l, []api.Finding{label(0, api.OK)}) {
		t.Error(l)
	}
	// A door whose question is a label, however it is written, is no finding.
	if l := v.audit(t, func(b *api.Books) { b.Labels = []string{b.Doors[0].Task.Question, b.Doors[1].Task.Question} }); len(l) > 0 {
		t.Error(l)
	}
	// More names than a decision can have.
	many := []string{"question x { 0 <= a.a + 1 and 0 <= a.b + 1 and 0 <= a.c + 1 and 0 <= a.d + 1 and 0 <= a.e + 1 and 0 <= a.f + 1 and 0 <= a.g + 1 and 0 <= a.h + 1 and 0 <= b.a + 1 and 0 <= b.b + 1 and 0 <= b.c + 1 and 0 <= b.d + 1 and 0 <= b.e + 1 and 0 <= b.f + 1 and 0 <= b.g + 1 and 0 <= b.h + 1 }"}
	if l := v.audit(t, func(b *api.Books) { b.Labels = many }); !slices.Equal(l, []api.Finding{label(0, api.ErrArg), label(1, api.ErrArg)}) {
		t.Error(l)
	}
}

// P10.9, P10.17: grants and limits. Grants that are divided, or in another order, lead to the same findings.
func TestLimits(t *testing.T) {
	w := middle()
	limits := []api.Limit{{Count: 2, Gate: api.None}, {Count: 4096, Length: 60, Gate: 3}}
	over := func(holder, limit int) api.Finding {
		return api.Finding{Kind: api.FiLimit, A: holder, B: limit}
	}
	grant := func(limit, window, count int) api.Left {
		return api.Left{Limit: limit, Window: window, Count: count}
	}
	for i, c := range []struct {
		grants  []api.Left
		holders []int
		want    []api.Finding
	}{
		{[]api.Left{grant(0, 0, 2)}, []int{5}, nil},
		{[]api.Left{grant(0, 0, 3)}, []int{5}, []api.Finding{over(5, 0)}},
		{[]api.Left{grant(0, 0, 1), grant(0, 0, 1), grant(0, 0, 0)}, []int{5, 5, 5}, nil},
		{[]api.Left{grant(0, 0, 2), grant(0, 0, 1)}, []int{5, 5}, []api.Finding{over(5, 0)}},
		{[]api.Left{grant(0, 0, 2), grant(0, 0, 1)}, []int{5, 6}, nil},
		{[]api.Left{grant(0, 0, 2), grant(0, 1, 2)}, []int{5, 5}, nil},
		{[]api.Left{grant(0, 0, 2), grant(1, 0, 2)}, []int{5, 5}, nil},
		{[]api.Left{grant(0, 7, 2), grant(0, 1, 3), grant(0, 7, 1)}, []int{5, 5, 5}, []api.Finding{over(5, 0)}},
		{[]api.Left{grant(1, 7, 4096), grant(1, 7, 1), grant(0, 1<<62, 3)}, []int{5, 5, 2}, []api.Finding{over(2, 0), over(5, 1)}},
		{[]api.Left{grant(1, 7, 4096), grant(1, 8, 4096)}, []int{1 << 62, 1 << 62}, nil},
		{[]api.Left{grant(1, 7, 4096), grant(1, 7, 4096), grant(0, 7, 4096)}, []int{1 << 62, 1 << 62, 1 << 62}, []api.Finding{over(1<<62, 0), over(1<<62, 1)}},
	} {
		v := &village{world: w, books: api.Books{Limits: limits, Grants: c.grants, Holders: c.holders}}
		if l := v.audit(t); !slices.Equal(l, c.want) {
			t.Error(i, l)
		}
	}
	for range 500 {
		v := &village{world: w, books: api.Books{Limits: limits}}
		b := &v.books
		for range w.IntN(10) {
			b.Grants, b.Holders = append(b.Grants, grant(w.IntN(2), w.IntN(2), w.IntN(3))), append(b.Holders, 1+w.IntN(3))
		}
		want := v.audit(t)
		w.Shuffle(len(b.Grants), func(i, k int) {
			b.Grants[i], b.Grants[k] = b.Grants[k], b.Grants[i]
			b.Holders[i], b.Holders[k] = b.Holders[k], b.Holders[i]
		})
		for i, g := range b.Grants {
			part := w.IntN(g.Count + 1)
			b.Grants[i].Count -= part
			b.Grants, b.Holders = append(b.Grants, grant(g.Limit, g.Window, part)), append(b.Holders, b.Holders[i])
		}
		if l := v.audit(t); !slices.Equal(l, want) {
			t.Fatal(b.Grants, b.Holders, l, want)
		}
	}
}

// P10.9: openings that are not supported.
func TestOpenings(t *testing.T) {
	v := middle().busy(t)
	opening := func(l ...int) []api.Finding {
		var r []api.Finding
		for _, i := range l {
			r = append(r, api.Finding{Kind: api.FiOpening, A: i})
		}
		return r
	}
	out := func(no int) func(e api.Entry) bool {
		return func(e api.Entry) bool { return e.Gate == v.uses[0].receipt.Gate && e.No == no }
	}
	u := v.uses[0]
	for i, c := range []struct {
		change func(b *api.Books)
		want   []api.Finding
	}{
		{func(b *api.Books) { b.Entries = nil }, opening(0, 1, 2, 3)},
		{func(b *api.Books) { b.Entries = slices.DeleteFunc(b.Entries, out(u.receipt.No)) }, opening(0)},
		{func(b *api.Books) { b.Entries = slices.DeleteFunc(b.Entries, out(u.receipt.Nums[0])) }, opening(0)},
		{func(b *api.Books) { b.Gates = b.Gates[:1] }, opening(2)},
		{func(b *api.Books) { b.Votes = nil }, opening(0, 1, 2, 3)},
		{func(b *api.Books) { b.Votes = b.Votes[1:] }, opening(0)},
		{func(b *api.Books) { b.Votes[0].Points[0].Share++ }, opening(0)},
		{func(b *api.Books) { b.Votes[1].Sig.C++ }, opening(0)},
		{func(b *api.Books) { b.Statutes, b.Jurors = nil, nil }, opening(0, 1, 2, 3)},
		{func(b *api.Books) { b.Statutes, b.Jurors = b.Statutes[:1], b.Jurors[:1] }, opening(0, 3)},
		{func(b *api.Books) { b.Statutes[0], b.Statutes[1] = b.Statutes[1], b.Statutes[0] }, opening(0, 1, 2, 3)},
		{func(b *api.Books) { b.Jurors[0] = nil }, opening(1, 2)},
		{func(b *api.Books) { b.Jurors[1] = b.Jurors[1][:3] }, opening(3)},
		{func(b *api.Books) { b.Jurors[1][2] = b.Jurors[1][3] }, opening(0, 3)},
		{func(b *api.Books) { b.Statutes[0].Reasons = []string{"alarm"} }, opening(1, 2)},
		{func(b *api.Books) { b.Openings[1].Holder++ }, opening(1)},
		{func(b *api.Books) { b.Openings[1].Version = 1 }, opening(1)},
		{func(b *api.Books) { b.Openings[1].Version = 2 }, opening(1)},
		{func(b *api.Books) { b.Openings[1].Version = -1 }, opening(1)},
		{func(b *api.Books) { b.Openings[1].Version = 1 << 62 }, opening(1)},
		{func(b *api.Books) { b.Openings[1].Gate++ }, opening(1)},
		{func(b *api.Books) { b.Openings[1].Gate = -1 }, opening(1)},
		{func(b *api.Books) { b.Openings[1].No++ }, opening(1)},
		{func(b *api.Books) { b.Openings[1].No-- }, opening(1)}, // an EnAsk
		{func(b *api.Books) { b.Openings[1].No = 1 << 62 }, opening(1)},
		{func(b *api.Books) { b.Openings[1].Reason = "alarm" }, opening(1)},
		{func(b *api.Books) { b.Openings[1].Jurors = nil }, opening(1)},
		{func(b *api.Books) { b.Openings[1].Jurors = []int{0} }, opening(1)},
		{func(b *api.Books) { b.Openings[1].Jurors = []int{1, 1} }, opening(1)},
		{func(b *api.Books) { b.Openings[0].Jurors = []int{2, 0} }, opening(0)},
		{func(b *api.Books) { b.Openings[3].Jurors = []int{0, 2, 3} }, nil}, // without the juror who has no points
		{func(b *api.Books) { b.Openings[3].Jurors = []int{0, 1, 2} }, nil},
		{func(b *api.Books) { b.Openings[3].Jurors = []int{0, 1} }, opening(3)},
		{func(b *api.Books) { b.Openings = append(b.Openings, b.Openings[0], api.Opening{}) }, opening(5)},
		{func(b *api.Books) { b.Openings[0], b.Openings[3] = b.Openings[3], b.Openings[0] }, nil},
		{func(b *api.Books) { b.Entries = append(b.Entries, v.sealed(t, fakeShow(t, v, u.receipt.No))) }, nil},
	} {
		l := v.audit(t, c.change)
		l = slices.DeleteFunc(l, func(x api.Finding) bool { return x.Kind == api.FiCharge })
		if !slices.Equal(l, c.want) {
			t.Error(i, l)
		}
	}
}

// fakeShow returns an EnShow that refers to the same EnAsk as the first use, with another record.
func fakeShow(t *testing.T, v *village, no int) api.Entry {
	t.Helper()
	return api.Entry{Gate: v.uses[0].receipt.Gate, No: no, Time: 1, Kind: api.EnShow, Nums: v.uses[0].receipt.Nums, Text: recordText(t, v.uses[1].record)}
}

// P10.17: whatever votes there are in the books, in any order: an opening that Open returns for them is no finding.
func TestOpenedIsSupported(t *testing.T) {
	w := middle()
	v := w.busy(t)
	openings := 0
	for range 60 {
		var votes []api.Vote
		for i := range v.uses {
			u := &v.uses[i]
			for _, x := range u.anyVotes(t) {
				x.Gate, x.No = x.Gate-2+u.receipt.Gate, x.No-5+u.receipt.No
				if within(x.Juror, 0, 20) {
					x = u.cast(t, x)
				}
				votes = append(votes, x)
			}
		}
		w.Shuffle(len(votes), func(i, k int) { votes[i], votes[k] = votes[k], votes[i] })
		var l []api.Opening
		for _, u := range v.uses {
			for _, reason := range []string{"alarm", "theft"} {
				if o, e := inquiry.Open(u.s, u.keys, u.statutes, u.task, u.record, u.receipt.Gate, u.receipt.No, reason, votes); e == api.OK {
					l = append(l, o)
				}
			}
		}
		openings += len(l)
		if f := v.audit(t, func(b *api.Books) { b.Votes, b.Openings = votes, l }); len(f) > 0 {
			t.Fatal(votes, l, f)
		}
	}
	if openings < 100 {
		t.Error(openings)
	}
}

// P10.9: some pair of entries is enough, also if the gate has signed several with the same numbers.
func TestSeveralPairs(t *testing.T) {
	v := middle().busy(t)
	u, other := v.uses[0], v.uses[4]
	if u.receipt.Gate != other.receipt.Gate {
		t.Fatal("gates")
	}
	// The gate signs the other use with the numbers of the first one; it was opened there.
	ask := api.Entry{Gate: 0, No: u.receipt.Nums[0], Time: 7, Kind: api.EnAsk, Nums: []int{0, other.task.Dare}, Text: gate.EncodeTask(other.task)}
	again := api.Entry{Gate: 0, No: u.receipt.No, Time: 7, Kind: api.EnShow, Nums: u.receipt.Nums, Text: recordText(t, other.record)}
	moved := other
	moved.receipt = u.receipt
	w := *v
	w.uses = []use{moved}
	w.books = copied(v.books)
	w.reveal(t, 0, 3, 0)
	w.books.Openings = append(w.books.Openings, v.books.Openings[0])
	last := len(w.books.Openings) - 2
	for i, c := range []struct {
		entries []api.Entry
		want    []int
	}{{nil, []int{last}}, {[]api.Entry{ask}, []int{last}}, {[]api.Entry{again}, []int{last}}, {[]api.Entry{ask, again}, nil}} {
		l := w.audit(t, func(b *api.Books) {
			for _, e := range c.entries {
				b.Entries = append(b.Entries, w.sealed(t, e))
			}
		})
		var got []int
		for _, x := range l {
			if x.Kind == api.FiOpening {
				got = append(got, x.A)
			}
		}
		if !slices.Equal(got, c.want) {
			t.Error(i, l)
		}
	}
}

// P10.9: which books are valid, at each limit.
func TestBooks(t *testing.T) {
	v := middle().busy(t)
	limit := api.Limit{Count: 1, Gate: api.None}
	for i, c := range []struct {
		change func(b *api.Books)
		valid  bool
	}{
		{func(b *api.Books) { b.Gates = make([]int, 24) }, true}, {func(b *api.Books) { b.Gates = make([]int, 25) }, false},
		{func(b *api.Books) { b.Doors = slices.Repeat(b.Doors, 8) }, true}, {func(b *api.Books) { b.Doors = append(slices.Repeat(b.Doors, 8), b.Doors[0]) }, false},
		{func(b *api.Books) { b.Doors = append(b.Doors, api.Door{}) }, false}, {func(b *api.Books) { b.Doors[1].Limit.Count = 0 }, false}, {func(b *api.Books) { b.Doors[0].Task.Most = 200 }, false},
		{func(b *api.Books) { b.Labels = slices.Repeat(b.Labels, 64) }, true}, {func(b *api.Books) { b.Labels = append(slices.Repeat(b.Labels, 64), b.Labels[0]) }, false},
		{func(b *api.Books) { b.Labels[1] = "id.age >= 18" }, false}, {func(b *api.Books) { b.Labels = []string{""} }, false},
		{func(b *api.Books) { b.Entries = make([]api.Entry, 4096) }, true}, {func(b *api.Books) { b.Entries = make([]api.Entry, 4097) }, false},
		{func(b *api.Books) { b.Limits = slices.Repeat(b.Limits, 8) }, true}, {func(b *api.Books) { b.Limits = append(slices.Repeat(b.Limits, 8), limit) }, false},
		{func(b *api.Books) { b.Limits[1].Count = 0 }, false}, {func(b *api.Books) { b.Limits[0].Length = -1 }, false}, {func(b *api.Books) { b.Limits = nil }, false}, {func(b *api.Books) { b.Limits = b.Limits[:1] }, false},
		{func(b *api.Books) { b.Grants, b.Holders = make([]api.Left, 4096), slices.Repeat([]int{1}, 4096) }, true}, {func(b *api.Books) { b.Grants, b.Holders = make([]api.Left, 4097), slices.Repeat([]int{1}, 4097) }, false},
		{func(b *api.Books) { b.Holders = b.Holders[:2] }, false}, {func(b *api.Books) { b.Holders = append(b.Holders, 1) }, false}, {func(b *api.Books) { b.Grants, b.Holders = nil, nil }, true},
		{func(b *api.Books) { b.Holders[1] = 0 }, false}, {func(b *api.Books) { b.Holders[1] = -1 }, false}, {func(b *api.Books) { b.Holders[1] = 1 << 62 }, true},
		{func(b *api.Books) { b.Grants[1].Limit = -1 }, false}, {func(b *api.Books) { b.Grants[1].Limit = 2 }, false},
		{func(b *api.Books) { b.Grants[1].Window = -1 }, false}, {func(b *api.Books) { b.Grants[1].Window = 1 << 62 }, true},
		{func(b *api.Books) { b.Grants[1].Count = -1 }, false}, {func(b *api.Books) { b.Grants[1].Count = 0 }, true}, {func(b *api.Books) { b.Grants[1].Count = 4096 }, true}, {func(b *api.Books) { b.Grants[1].Count = 4097 }, false},
		{func(b *api.Books) { b.Statutes[1].Quorum = 0 }, false}, {func(b *api.Books) { b.Statutes, b.Jurors = slices.Repeat(b.Statutes, 8), make([][]int, 16) }, true}, {func(b *api.Books) { b.Statutes, b.Jurors = slices.Repeat(b.Statutes, 9), make([][]int, 18) }, false},
		{func(b *api.Books) { b.Statutes = nil }, false}, {func(b *api.Books) { b.Jurors = nil }, false}, {func(b *api.Books) { b.Jurors = b.Jurors[:1] }, false}, {func(b *api.Books) { b.Statutes, b.Jurors = nil, nil }, true},
		{func(b *api.Books) { b.Jurors = append(b.Jurors, nil) }, false}, {func(b *api.Books) { b.Jurors = [][]int{nil, make([]int, 5000)} }, true},
		{func(b *api.Books) { b.Votes = make([]api.Vote, 4096) }, true}, {func(b *api.Books) { b.Votes = make([]api.Vote, 4097) }, false},
		{func(b *api.Books) { b.Openings = make([]api.Opening, 4096) }, true}, {func(b *api.Books) { b.Openings = make([]api.Opening, 4097) }, false},
	} {
		b := copied(v.books)
		c.change(&b)
		l, e := inquiry.Audit(v.s, b)
		if c.valid && e != api.OK || !c.valid && (e != api.ErrArg || len(l) > 0) {
			t.Error(i, l, e)
		}
	}
	for _, s := range notSetups() {
		for _, b := range []api.Books{{}, v.books} {
			if l, e := inquiry.Audit(s, b); e != api.ErrArg || len(l) > 0 {
				t.Error(l, e)
			}
		}
	}
}

// P10.9: any valid books, of which some numbers, texts and lists are wrong, have the findings of the definition.
func TestAuditAny(t *testing.T) {
	w := middle()
	v := w.busy(t)
	kinds := map[int]int{}
	valid := 0
	for range 800 {
		b := copied(v.books)
		for range 1 + w.IntN(3) {
			switch w.IntN(8) {
			case 0:
				spoil(w.Rand, &b)
			case 1:
				spoil(w.Rand, &b.Grants)
			case 2:
				spoil(w.Rand, &b.Labels)
			case 3:
				spoil(w.Rand, &b.Votes)
			case 4:
				spoil(w.Rand, &b.Openings)
			case 5:
				spoil(w.Rand, &b.Doors)
			case 6:
				if i := w.IntN(len(b.Entries) + 1); i < len(b.Entries) {
					b.Entries[i] = v.doctored(b.Entries[i])
				}
			case 7:
				spoil(w.Rand, &b.Jurors)
			}
		}
		l, e := inquiry.Audit(v.s, b)
		if e != api.OK {
			continue
		}
		valid++
		if !slices.Equal(l, found(v.s, b)) {
			t.Fatal(l, found(v.s, b))
		}
		for _, x := range l {
			kinds[x.Kind]++
		}
	}
	if valid < 400 {
		t.Error(valid)
	}
	for kind := range api.FiKinds {
		if kinds[kind] < 10 && kind != api.FiExposed {
			t.Error(kind, kinds[kind])
		}
	}
}

// doctored returns what a gate that does not work as it should may publish instead of an entry, or the zero entry.
func (v *village) doctored(e api.Entry) api.Entry {
	spoil(v.Rand, &e.Nums)
	if v.IntN(2) == 0 {
		spoil(v.Rand, &e.Time)
	}
	x, _ := gate.Seal(v.s, gateSecret(e.Gate), e)
	return x
}

// P10.9, P10.17: the order of entries, votes of different uses and labels has no effect; further entries remove no charge.
func TestFurtherEntries(t *testing.T) {
	w := middle()
	v := w.busy(t)
	charged := 0
	for range 150 {
		b := copied(v.books)
		for range 3 {
			b.Entries = append(b.Entries, v.doctored(copied(b.Entries[w.IntN(len(b.Entries))])))
		}
		l, e := inquiry.Audit(v.s, b)
		if e != api.OK {
			t.Fatal(e)
		}
		w.Shuffle(len(b.Entries), func(i, k int) { b.Entries[i], b.Entries[k] = b.Entries[k], b.Entries[i] })
		slices.Reverse(b.Labels)
		if again, e := inquiry.Audit(v.s, b); e != api.OK || !slices.Equal(again, l) {
			t.Fatal(l, again)
		}
		b.Entries = b.Entries[:w.IntN(len(b.Entries))]
		part, e := inquiry.Audit(v.s, b)
		if e != api.OK {
			t.Fatal(e)
		}
		for _, x := range part {
			if x.Kind == api.FiCharge {
				charged++
				if !slices.Contains(l, x) {
					t.Fatal(part, l)
				}
			}
		}
	}
	if charged < 50 {
		t.Error(charged)
	}
}
