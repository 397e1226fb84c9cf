package gate

import (
	"iter"
	"slices"

	"cloak/api"
	"cloak/ask"
	"cloak/purse"
)

// spends visits the spends of a record, each with its ticket. The record need not be accepted.
func spends(r api.Record) iter.Seq2[api.Ticket, api.Spend] {
	return func(yield func(api.Ticket, api.Spend) bool) {
		for i, t := range r.Tickets {
			if i < len(r.Links) {
				for _, x := range r.Links[i] {
					if !yield(x.Ticket, x.Spend) {
						return
					}
				}
			}
			if i < len(r.Spends) && !yield(t, r.Spends[i]) {
				return
			}
		}
	}
}

// marksOf returns the marks of the tickets that a record spends.
func marksOf(r api.Record) []int {
	var l []int
	for t := range spends(r) {
		l = append(l, t.Mark)
	}
	return l
}

// linkMarksOf returns the marks of the tickets of the links of a record.
func linkMarksOf(r api.Record) []int {
	return each(slices.Concat(r.Links...), func(x api.Link) int { return x.Ticket.Mark })
}

// testLinks returns the first error of the links of a record: that their terms do not permit a showing for a task at a time, or that they are recalled.
func testLinks(t api.Task, r api.Record, now int, recalled []int) api.Errno {
	name, _, _, _ := ask.Parse(t.Question)
	for _, links := range r.Links {
		for i, x := range links {
			until, question, ok := purse.ReadTerms(x.Terms)
			switch {
			case !ok, i > 0 && !purse.Narrows(x.Terms, links[i-1].Terms), question != "" && question != name:
				return api.ErrForm
			case until < now:
				return api.ErrStale
			case slices.Contains(recalled, x.Ticket.Mark):
				return api.ErrRevoked
			}
		}
	}
	return api.OK
}
