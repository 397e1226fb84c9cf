package crowd

import (
	"slices"

	"cloak/api"
)

// view is a valid crowd, with the members that are eligible for each use, or what a caller leaves of them.
type view struct {
	answers
	can []members
}

// look returns the view of a crowd, and whether the crowd is valid.
func look(c api.Crowd) (view, bool) {
	a, ok := answersOf(c)
	if !ok {
		return view{}, false
	}
	return view{a, each(c.Uses, a.eligible)}, true
}

// lookAt returns the view of a crowd, and whether the crowd is valid and has a use.
func lookAt(c api.Crowd, use int) (view, bool) {
	v, ok := look(c)
	return v, ok && isIndex(use, len(c.Uses))
}

// takes reports whether a crowd can have a further use.
func (v view) takes(use api.Seen) bool {
	return len(v.can) < api.MaxUses && validUse(v.crowd, use)
}

// with returns the view with a further use after all others.
func (v view) with(use api.Seen) view {
	v.crowd.Uses = slices.Concat(v.crowd.Uses, []api.Seen{use})
	v.can = slices.Concat(v.can, []members{v.eligible(use)})
	return v
}

// of returns the view with no other uses than some.
func (v view) of(uses []int) view {
	seen, can := v.crowd.Uses, v.can
	v.crowd.Uses = each(uses, func(u int) api.Seen { return seen[u] })
	v.can = each(uses, func(u int) members { return can[u] })
	return v
}

// narrow leaves at most one member as eligible for a use: the given one, if it is a member and eligible.
func (v view) narrow(use, member int) {
	if isIndex(member, len(v.crowd.Members)) {
		v.can[use] &= only(member)
	} else {
		v.can[use] = 0
	}
}

// group is the uses of a window: their indices, the members that are eligible for them, and the tickets of each member for this window.
type group struct {
	uses    []int
	can     []members
	tickets []int
}

// group returns the group of a window.
func (v view) group(window int) group {
	var g group
	for u, use := range v.crowd.Uses {
		if use.Window == window {
			g.uses, g.can = append(g.uses, u), append(g.can, v.can[u])
		}
	}
	g.tickets = each(v.crowd.Members, func(m api.Member) int { return ticketsOf(m, window) })
	return g
}

// groups returns the groups that have uses.
func (v view) groups() []group {
	var r []group
	for window := range api.MaxWindows {
		if g := v.group(window); len(g.uses) > 0 {
			r = append(r, g)
		}
	}
	return r
}
