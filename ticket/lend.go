package ticket

import (
	"cloak/api"
	"cloak/base"
	"cloak/field"
)

// LendDare returns the lending challenge of a ticket and terms.
func LendDare(s api.Setup, next api.Ticket, terms string) int {
	g, ok := open(s)
	if !ok {
		return 0
	}
	return g.lendDare(next, terms)
}

// lendDare returns the lending challenge of a ticket and terms, which is in the upper half of all challenges.
func (g group) lendDare(next api.Ticket, terms string) int {
	half := g.Group.Q / 2
	return half + 1 + field.Number(Encode(next)+base.Text(terms), g.Group.Q-1-half)
}

// Follows reports whether links are a chain that leads to a challenge.
func Follows(s api.Setup, keys []int, links []api.Link, dare int) bool {
	g, ok := open(s)
	if !ok || len(links) < 1 || len(links) > api.MaxLinks+1 {
		return false
	}
	last := len(links) - 1
	for i, l := range links[:last] {
		if len(l.Terms) > api.MaxText || !g.leads(keys, l, g.lendDare(links[i+1].Ticket, l.Terms)) {
			return false
		}
	}
	return links[last].Terms == "" && g.leads(keys, links[last], dare)
}

// leads reports whether the ticket of a link is valid for one of the keys, and spent for the challenge dare.
func (g group) leads(keys []int, l api.Link, dare int) bool {
	return l.Spend.Dare == dare && g.valid(l.Ticket, keys...) && g.accepts(l.Ticket, l.Spend)
}
