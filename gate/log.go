package gate

import (
	"slices"

	"cloak/api"
	"cloak/show"
)

// log is the log of a gate.
type log []api.Entry

// of returns the entries of a kind.
func (l log) of(kind int) []api.Entry {
	return filter(l, func(e api.Entry) bool { return e.Kind == kind })
}

// numbers returns the numbers of all entries of a kind.
func (l log) numbers(kind int) []int {
	var all []int
	for _, e := range l.of(kind) {
		all = append(all, e.Nums...)
	}
	return all
}

// hasAsk reports whether there is an EnAsk with a number.
func (l log) hasAsk(no int) bool { return no >= 0 && no < len(l) && l[no].Kind == api.EnAsk }

// answers reports whether an entry is the answer to an EnAsk.
func answers(e api.Entry) bool { return e.Kind == api.EnShow || e.Kind == api.EnRefuse }

// test returns the error of an entry that would be the next one.
func (l log) test(e api.Entry) api.Errno {
	switch {
	case len(l) > 0 && l[len(l)-1].Time > e.Time, l.repeats(e):
		return api.ErrState
	case len(l) >= api.MaxUses, l.exceeds(e):
		return api.ErrFull
	}
	return api.OK
}

// repeats reports whether the log says already what an entry says, or has answered what it answers.
func (l log) repeats(e api.Entry) bool {
	switch e.Kind {
	case api.EnLearn, api.EnRecall:
		known := l.numbers(e.Kind)
		return slices.ContainsFunc(e.Nums, func(n int) bool { return slices.Contains(known, n) })
	case api.EnShow, api.EnRefuse:
		return slices.ContainsFunc(l, func(x api.Entry) bool { return answers(x) && x.Nums[0] == e.Nums[0] })
	}
	return false
}

// exceeds reports whether there would be too many numbers with an entry, or it has no challenge.
func (l log) exceeds(e api.Entry) bool {
	switch e.Kind {
	case api.EnLearn:
		return len(l.numbers(e.Kind))+len(e.Nums) > api.MaxRevoked
	case api.EnRecall:
		return len(l.numbers(e.Kind))+len(e.Nums) > api.MaxRecalled
	case api.EnAsk:
		return e.Nums[1] == 0
	}
	return false
}

// hasSeen reports whether a ticket that a record spends was spent in the log before.
func (l log) hasSeen(r api.Record) bool {
	marks := marksOf(r)
	return slices.ContainsFunc(l.of(api.EnShow), func(e api.Entry) bool {
		before, _ := show.Decode(e.Text)
		return overlap(marks, marksOf(before))
	})
}
