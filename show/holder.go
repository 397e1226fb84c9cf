package show

import (
	"slices"

	"cloak/api"
	"cloak/ask"
	"cloak/field"
	"cloak/ticket"
)

// Fits returns the error of tickets for a task.
func Fits(s api.Setup, t api.Task, held []api.Held) api.Errno {
	_, e := fit(s, t, held)
	return e
}

// Binds returns the values of the names of the question.
func Binds(t api.Task, held []api.Held) ([]api.Bind, bool) {
	_, p, _, e := ask.Parse(t.Question)
	if e != api.OK {
		return nil, false
	}
	names := ask.Names(p)
	places, ok := meanings(t.Passes, names)
	if !ok || slices.ContainsFunc(places, func(at place) bool { return at.pass >= len(held) || at.attr >= len(held[at.pass].Attrs) }) {
		return nil, false
	}
	return bind(names, valuesAt(places, held)), true
}

// valuesAt returns the attributes at places.
func valuesAt(places []place, held []api.Held) []int {
	return each(places, func(at place) int { return held[at.pass].Attrs[at.attr] })
}

// bind returns the values of names as binds.
func bind(names []string, values []int) []api.Bind {
	l := make([]api.Bind, len(names))
	for i, name := range names {
		l[i] = api.Bind{Name: name, Value: values[i]}
	}
	return l
}

// holder is one who has tickets for a task.
type holder struct {
	plan
	held   []api.Held
	spends []api.Spend
	values []int // of the names
	number int
}

// fit returns the holder of tickets that fit a task, or the error of the task or of the tickets.
func fit(s api.Setup, t api.Task, held []api.Held) (*holder, api.Errno) {
	p, e := prepare(s, t)
	if e != api.OK {
		return nil, e
	}
	h := &holder{plan: p, held: held}
	e = first(
		unless(h.spendAll, api.ErrArg),
		unless(func() bool { return different(marksOf(h.tickets())) }, api.ErrTwice),
		unless(h.isOwner, api.ErrOwner),
		unless(func() bool { return !slices.ContainsFunc(h.values, func(v int) bool { return v > t.Most }) }, api.ErrRange),
		unless(h.satisfies, api.ErrUnsat),
		unless(func() bool { return !slices.Contains(t.Revoked, h.number) }, api.ErrRevoked),
	)
	if e != api.OK {
		return nil, e
	}
	return h, api.OK
}

// first returns the first error that a list of functions finds.
func first(find ...func() api.Errno) api.Errno {
	for _, f := range find {
		if e := f(); e != api.OK {
			return e
		}
	}
	return api.OK
}

// unless returns a function that finds an error, unless something is as it should be.
func unless(right func() bool, e api.Errno) func() api.Errno {
	return func() api.Errno {
		if right() {
			return api.OK
		}
		return e
	}
}

// spendAll finds the spends, the values and the number, and reports whether there is one ticket for each pass, which is the holder's and leads to the challenge.
func (h *holder) spendAll() bool {
	if len(h.held) != len(h.task.Passes) {
		return false
	}
	for i, x := range h.held {
		spend, ok := ticket.Use(h.Setup, x.Attrs, x.Blinding, h.task.Dare)
		if !ok || !h.owns(x) || !h.leads(i, x.Links, x.Ticket, spend) {
			return false
		}
		h.spends = append(h.spends, spend)
	}
	h.values, h.number = valuesAt(h.places, h.held), h.held[0].Attrs[0]
	return true
}

// owns reports whether a ticket was made with its attributes, which are usable, and its blinding, which is valid.
func (g group) owns(x api.Held) bool {
	mark := g.power(ticket.Mark(g.Setup, x.Attrs), x.Blinding.S)
	first, ok := field.Product(g.Group, g.Bases, x.Blinding.Ys)
	return ok && x.Ticket.Mark == mark && x.Ticket.First == first
}

// leads reports whether links, followed by a ticket with its spend, are a chain that leads to the challenge for the pass with an index.
func (p plan) leads(i int, links []api.Link, t api.Ticket, spend api.Spend) bool {
	chain := slices.Concat(links, []api.Link{{Ticket: t, Spend: spend}})
	pass := p.task.Passes[i]
	// The keys of guests make no difference for a chain of one link, whose ticket is the first one.
	return ticket.Valid(p.Setup, pass.Pub, chain[0].Ticket) && ticket.Follows(p.Setup, keysOf(pass), chain, p.task.Dare)
}

// tickets returns the tickets of a holder.
func (h *holder) tickets() []api.Ticket {
	return each(h.held, func(x api.Held) api.Ticket { return x.Ticket })
}

// isOwner reports whether all tickets have the same number.
func (h *holder) isOwner() bool {
	return !slices.ContainsFunc(h.held, func(x api.Held) bool { return x.Attrs[0] != h.number })
}

// satisfies reports whether the question is true for the values.
func (h *holder) satisfies() bool {
	ok, _ := ask.Holds(h.pred, bind(h.names, h.values))
	return ok
}
