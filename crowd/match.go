package crowd

import (
	"slices"

	"cloak/api"
)

// match gives the uses of a group tickets of members that are eligible for them. Its uses are numbered within the group.
type match struct {
	can   []members // by use: the members that are eligible
	at    []int     // by use: the member whose ticket it has, or None
	left  []int     // by member: how many tickets no use has
	moves [][]int   // by member: the uses that have a ticket of it, and can be given one of another member
}

// match gives each use of the group a ticket, and returns an empty list. If this is not possible, it returns the indices of uses that have too few tickets together.
func (g group) match() (*match, []int) {
	m := &match{
		can:   g.can,
		at:    slices.Repeat([]int{api.None}, len(g.can)),
		left:  slices.Clone(g.tickets),
		moves: make([][]int, len(g.tickets)),
	}
	for use := range g.can {
		if full, ok := m.place(use); !ok {
			return m, each(m.among(use, full), func(u int) int { return g.uses[u] })
		}
	}
	return m, nil
}

// place gives a use a ticket of the first member that has one left, or gets one back if other uses are given tickets of other members.
// If there is no such member, it returns the members that were tried: they have no tickets left, and no use that has one of their tickets can have one of another member.
func (m *match) place(use int) (members, bool) {
	var tried members
	var settle func(use int) bool
	settle = func(use int) bool {
		for m.can[use]&^tried != 0 {
			to := (m.can[use] &^ tried).first()
			tried |= only(to)
			if m.left[to] > 0 || slices.ContainsFunc(m.moves[to], settle) {
				m.give(use, to)
				return true
			}
		}
		return false
	}
	ok := settle(use)
	return tried, ok
}

// give gives a use a ticket of a member that has one left, and takes its present one away.
func (m *match) give(use, to int) {
	m.lift(use)
	m.at[use] = to
	m.left[to]--
	m.moves[to] = append(m.moves[to], use)
}

// lift takes the ticket of a use away, if it has one.
func (m *match) lift(use int) {
	if from := m.at[use]; from != api.None {
		m.pin(use)
		m.at[use] = api.None
		m.left[from]++
	}
}

// pin lets a use keep its ticket from now on.
func (m *match) pin(use int) {
	l := &m.moves[m.at[use]]
	*l = slices.DeleteFunc(*l, func(u int) bool { return u == use })
}

// among returns a use and all that have tickets of some members, in ascending order.
func (m *match) among(use int, owners members) []int {
	r := []int{use}
	for _, o := range owners.list() {
		r = append(r, m.moves[o]...)
	}
	slices.Sort(r)
	return r
}

// first changes the match of all uses to the first assignment of the group, and returns it.
func (m *match) first() []int {
	for use := range m.can {
		m.lift(use)
		m.place(use)
		m.pin(use)
	}
	return m.at
}

// sets returns, for each use, the members whose ticket it can have while all other uses have tickets as well.
func (m *match) sets() []members {
	spared := make(map[int]members)
	r := make([]members, len(m.can))
	for use, at := range m.at {
		if _, ok := spared[at]; !ok {
			spared[at] = m.spare(at)
		}
		r[use] = m.can[use] & spared[at]
	}
	return r
}

// spare returns the members that could give a further use a ticket, if a use of the given member had none.
// Which use that is has no effect: it would be one of the given member's, who has a ticket to spare anyway.
func (m *match) spare(member int) members {
	var reach []members // by member: those to whom one of its uses could move
	for _, l := range m.moves {
		var to members
		for _, use := range l {
			to |= m.can[use]
		}
		reach = append(reach, to)
	}
	set := those(len(m.left), func(i int) bool { return i == member || m.left[i] > 0 })
	for grown := true; grown; {
		before := set
		set |= those(len(m.left), func(i int) bool { return reach[i]&set != 0 })
		grown = set != before
	}
	return set
}
