package purse

import (
	"slices"

	"cloak/api"
	"cloak/field"
	"cloak/ticket"
)

// maxTerms is the greatest number of bytes of the terms of a link of a held ticket.
const maxTerms = 200

// Same reports whether two tickets are equal.
func Same(a, b api.Ticket) bool { return a == b }

// Valid reports whether a held ticket is valid.
func Valid(s api.Setup, limits []api.Limit, h api.Held) bool {
	if h.Limit < 0 || h.Limit >= len(limits) || !isTime(h.Window) || !validLinks(h.Links) {
		return false
	}
	return ticket.Formed(s, h.Ticket) && validBlinding(s, h.Blinding) && owns(s, h)
}

// validLinks reports whether links may be those of a held ticket.
func validLinks(l []api.Link) bool {
	return len(l) <= api.MaxLinks && !slices.ContainsFunc(l, func(x api.Link) bool {
		return len(x.Terms) > maxTerms || len(x.Spend.Answers) > api.MaxBases
	})
}

// validBlinding reports whether a blinding has the right form for a valid setup.
func validBlinding(s api.Setup, b api.Blinding) bool {
	return isDare(s, b.S) && isDare(s, b.U) && isNumber(s, b.V) && len(b.Ys) == len(s.Bases) &&
		!slices.ContainsFunc(b.Ys, func(y int) bool { return !isNumber(s, y) })
}

// isNumber reports whether n is from 0 to Q - 1.
func isNumber(s api.Setup, n int) bool { return n >= 0 && n < s.Group.Q }

// isDare reports whether n is from 1 to Q - 1, as challenges are.
func isDare(s api.Setup, n int) bool { return n != 0 && isNumber(s, n) }

// owns reports whether a ticket that is well formed was made with its attributes and its blinding.
// Where Attrs are no attributes of the setup, Mark returns 0, which is no element.
func owns(s api.Setup, h api.Held) bool {
	mark := field.Power(s.Group, ticket.Mark(s, h.Attrs), h.Blinding.S)
	first, ok := field.Product(s.Group, s.Bases, h.Blinding.Ys)
	return ok && h.Ticket.Mark == mark && h.Ticket.First == first
}

// copyHeld returns a held ticket that shares no memory with h.
func copyHeld(h api.Held) api.Held {
	h.Attrs = slices.Clone(h.Attrs)
	h.Blinding.Ys = slices.Clone(h.Blinding.Ys)
	h.Links = copyLinks(h.Links)
	return h
}

// copyLinks returns links that share no memory with l.
func copyLinks(l []api.Link) []api.Link {
	l = slices.Clone(l)
	for i := range l {
		l[i].Spend.Answers = slices.Clone(l[i].Spend.Answers)
	}
	return l
}
