package gate

import (
	"slices"

	"cloak/api"
	"cloak/proof"
	"cloak/show"
	"cloak/ticket"
)

// Join returns the joined list of two lists.
func Join(s api.Setup, keys []int, a, b []api.Entry) []api.Entry {
	return joined(s, keys, slices.Concat(a, b))
}

// joined returns the joined list of entries, which is empty if the setup is not valid.
func joined(s api.Setup, keys []int, l []api.Entry) []api.Entry {
	if !proof.ValidSetup(s) {
		return nil
	}
	list := each(l, code)
	slices.SortFunc(list, coded.compare)
	// What stands there several times is removed before the signatures are tested, which takes longest.
	list = slices.CompactFunc(list, func(a, b coded) bool { return a.text == b.text })
	list = filter(list, func(x coded) bool { return signed(s, keys, x.Entry) })
	return each(list, func(x coded) api.Entry { return copyEntry(x.Entry) })
}

// Past returns the past of a gate.
func Past(s api.Setup, keys []int, l []api.Entry, gate int) []api.Entry {
	own := filter(l, func(e api.Entry) bool { return e.Gate == gate })
	list := joined(s, keys, own)
	n := 0
	for n < len(list) && list[n].No == n && (n+1 == len(list) || list[n+1].No != n) {
		n++
	}
	return slices.Clip(list[:n])
}

// use is a spend of a list of entries.
type use struct {
	ticket api.Ticket
	spend  api.Spend
}

// usesOf returns the spends of a joined list of entries that are accepted.
func usesOf(s api.Setup, list []api.Entry) []use {
	var l []use
	for _, e := range log(list).of(api.EnShow) {
		r, _ := show.Decode(e.Text)
		for t, x := range spends(r) {
			l = append(l, use{t, x})
		}
	}
	return filter(l, func(u use) bool { return ticket.Accepts(s, u.ticket, u.spend) })
}

// Exposed returns the exposures of a list.
func Exposed(s api.Setup, keys []int, l []api.Entry) []api.Exposure {
	var order []api.Ticket
	uses := map[api.Ticket][]api.Spend{}
	for _, u := range usesOf(s, joined(s, keys, l)) {
		if uses[u.ticket] == nil {
			order = append(order, u.ticket)
		}
		uses[u.ticket] = append(uses[u.ticket], u.spend)
	}
	var all []api.Exposure
	for _, t := range order {
		if x, ok := expose(s, t, uses[t]); ok {
			all = append(all, x)
		}
	}
	return all
}

// expose returns the exposure of a ticket by its spends, of which there is at least one, and reports whether there is one.
func expose(s api.Setup, t api.Ticket, l []api.Spend) (api.Exposure, bool) {
	for _, x := range l[1:] {
		if attrs, ok := ticket.Trace(s, t, l[0], x); ok {
			return api.Exposure{Ticket: t, A: l[0], B: x, Attrs: attrs}, true
		}
	}
	return api.Exposure{}, false
}
