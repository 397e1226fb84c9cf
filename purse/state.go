package purse

import (
	"slices"

	"cloak/api"
)

// state is what the records of a journal produce.
type state struct {
	setup  api.Setup
	limits []api.Limit
	items  []api.Item
}

// rule returns what finds the error of a change of some kind, and what carries it out if there is none.
func (t *state) rule(kind int) (test func(change) api.Errno, carryOut func(change)) {
	switch kind {
	case kindReserve:
		return t.testUse, t.reserve
	case kindDone:
		return t.testDone, t.done
	case kindLend:
		return t.testUse, t.lend
	case kindBack:
		return t.testBack, t.back
	default: // kindAdd
		return t.testAdd, t.add
	}
}

// replay carries out the changes that records say, and reports whether the list of records is valid.
func (t *state) replay(records []string) bool {
	for _, record := range records {
		c, ok := readChange(record)
		if !ok {
			return false
		}
		test, carryOut := t.rule(c.kind)
		if test(c) != api.OK {
			return false
		}
		carryOut(c)
	}
	return true
}

// burn burns all tickets of which nobody knows whether they have been shown.
func (t *state) burn() {
	for i := range t.items {
		if t.items[i].Status == api.PuReserved {
			t.items[i].Status = api.PuBurned
		}
	}
}

// has reports whether there is an item with an index.
func (t *state) has(i int) bool { return i >= 0 && i < len(t.items) }

func (t *state) testAdd(c change) api.Errno {
	switch {
	case !Valid(t.setup, t.limits, c.held):
		return api.ErrArg
	case slices.ContainsFunc(t.items, func(x api.Item) bool { return Same(x.Held.Ticket, c.held.Ticket) }):
		return api.ErrTwice
	case len(t.items) >= api.MaxHeld:
		return api.ErrFull
	}
	return api.OK
}

func (t *state) add(c change) {
	t.items = append(t.items, api.Item{Held: copyHeld(c.held), Status: api.PuFree})
}

// testUse finds the error of a reservation, for a showing or for lending.
func (t *state) testUse(c change) api.Errno {
	switch {
	case !isDare(t.setup, c.dare):
		return api.ErrArg
	case !t.has(c.index):
		return api.ErrNone
	case t.items[c.index].Status != api.PuFree:
		return api.ErrState
	}
	return api.OK
}

func (t *state) reserve(c change) {
	t.items[c.index].Status = api.PuReserved
	t.items[c.index].Dare = c.dare
}

func (t *state) lend(c change) {
	t.reserve(c)
	t.items[c.index].Lent = true
}

func (t *state) testDone(c change) api.Errno {
	switch {
	case !t.has(c.index):
		return api.ErrNone
	case t.items[c.index].Status != api.PuReserved:
		return api.ErrState
	}
	return api.OK
}

func (t *state) done(c change) { t.items[c.index].Status = api.PuDone }

func (t *state) testBack(c change) api.Errno {
	switch {
	case !t.has(c.index):
		return api.ErrNone
	case !t.items[c.index].Lent || t.items[c.index].Back:
		return api.ErrState
	}
	return api.OK
}

func (t *state) back(c change) { t.items[c.index].Back = true }

// isMoment reports whether there are a limit with an index, and a time.
func (t *state) isMoment(limit, now int) bool {
	return limit >= 0 && limit < len(t.limits) && isTime(now)
}

// free returns the indices of the items that are free for a limit at a time.
func (t *state) free(limit, now int) []int {
	window := Window(t.limits[limit], now)
	var l []int
	for i, x := range t.items {
		if x.Status == api.PuFree && x.Held.Limit == limit && x.Held.Window == window {
			l = append(l, i)
		}
	}
	return l
}
