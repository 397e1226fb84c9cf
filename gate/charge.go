package gate

import (
	"slices"

	"cloak/api"
	"cloak/proof"
	"cloak/show"
)

// fact is an entry that has form, with what its text says.
type fact struct {
	api.Entry
	task   api.Task   // of an EnAsk
	record api.Record // of an EnShow
	marks  []int      // of the tickets that the record spends
}

// factOf returns an entry with what its text says.
func factOf(e api.Entry) fact {
	x := fact{Entry: e}
	switch e.Kind {
	case api.EnAsk:
		x.task, _ = DecodeTask(e.Text)
	case api.EnShow:
		x.record, _ = show.Decode(e.Text)
		x.marks = marksOf(x.record)
	}
	return x
}

// law is what the entries of gates must not break.
type law struct {
	setup api.Setup
	doors []api.Door
}

// one reports whether a charge with one entry holds.
func (w law) one(reason int, a *fact) bool {
	if a.Kind != api.EnAsk {
		return false
	}
	switch reason {
	case api.RsDare:
		return a.Nums[1] > w.setup.Group.Q/2 || (a.Nums[1]-1)%api.MaxGates != a.Gate
	case api.RsTask:
		return !w.asked(a)
	}
	return false
}

// asked reports whether an EnAsk has a door of its gate, and the task of this door.
func (w law) asked(a *fact) bool {
	door := a.Nums[0]
	if door >= len(w.doors) || !belongs(w.doors[door], a.Gate) {
		return false
	}
	t, e := Task(w.setup, w.doors[door], a.Time, a.task.Revoked, a.task.Dare)
	return e == api.OK && EncodeTask(t) == a.Text
}

// two reports whether a charge with two entries of one gate holds.
func (w law) two(reason int, a, b *fact) bool {
	if a.No >= b.No {
		return reason == api.RsFork && a.No == b.No && code(a.Entry).compare(code(b.Entry)) < 0
	}
	switch reason {
	case api.RsOrder:
		return a.Time > b.Time
	case api.RsDare:
		return a.Kind == api.EnAsk && b.Kind == api.EnAsk && a.Nums[1] >= b.Nums[1]
	case api.RsAnswer:
		return answers(a.Entry) && answers(b.Entry) && a.Nums[0] == b.Nums[0]
	case api.RsBad:
		return isShown(a, b) && show.Check(w.setup, a.task, b.record) != api.OK
	case api.RsTwice:
		return a.Kind == api.EnShow && b.Kind == api.EnShow && overlap(a.marks, b.marks)
	case api.RsStale:
		return a.Kind == api.EnLearn && b.Kind == api.EnAsk && !every(a.Nums, func(n int) bool { return slices.Contains(b.task.Revoked, n) })
	case api.RsTerms:
		return isShown(a, b) && testLinks(a.task, b.record, b.Time, nil) != api.OK
	case api.RsRecall:
		return a.Kind == api.EnRecall && b.Kind == api.EnShow && overlap(linkMarksOf(b.record), a.Nums)
	}
	return false
}

// isShown reports whether a is an EnAsk, and b an EnShow that refers to it.
func isShown(a, b *fact) bool {
	return a.Kind == api.EnAsk && b.Kind == api.EnShow && b.Nums[0] == a.No
}

// Charges returns all charges that hold for entries of a list.
func Charges(s api.Setup, keys []int, doors []api.Door, l []api.Entry) []api.Charge {
	w := law{s, doors}
	facts := each(joined(s, keys, l), factOf)
	var all []api.Charge
	for i := range facts {
		a := &facts[i]
		for reason := range api.RsKinds {
			if w.one(reason, a) {
				all = append(all, api.Charge{Gate: a.Gate, Reason: reason, A: copyEntry(a.Entry)})
			}
		}
		for k := i + 1; k < len(facts) && facts[k].Gate == a.Gate; k++ {
			b := &facts[k]
			for reason := range api.RsKinds {
				if w.two(reason, a, b) {
					all = append(all, api.Charge{Gate: a.Gate, Reason: reason, A: copyEntry(a.Entry), B: copyEntry(b.Entry)})
				}
			}
		}
	}
	return all
}

// Charged reports whether a charge holds.
func Charged(s api.Setup, keys []int, doors []api.Door, c api.Charge) bool {
	if !proof.ValidSetup(s) || c.Gate != c.A.Gate || !signed(s, keys, c.A) {
		return false
	}
	w, a := law{s, doors}, factOf(c.A)
	// The zero entry has no form, so that it is not the second one of a charge with two.
	if Encode(c.B) == Encode(api.Entry{}) {
		return w.one(c.Reason, &a)
	}
	if c.Gate != c.B.Gate || !signed(s, keys, c.B) {
		return false
	}
	b := factOf(c.B)
	return w.two(c.Reason, &a, &b)
}
