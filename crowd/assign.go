package crowd

import "cloak/api"

// Fits reports whether a list is an assignment of a crowd.
func Fits(c api.Crowd, list []int) bool {
	v, ok := look(c)
	if !ok || len(list) != len(c.Uses) {
		return false
	}
	var given [api.MaxHolders][api.MaxWindows]int
	for u, m := range list {
		if !isIndex(m, len(c.Members)) || !v.can[u].has(m) {
			return false
		}
		window := c.Uses[u].Window
		given[m][window]++
		if given[m][window] > ticketsOf(c.Members[m], window) {
			return false
		}
	}
	return true
}

// Assign returns the first assignment of a crowd that agrees with a list.
func Assign(c api.Crowd, list []int) ([]int, bool) {
	v, ok := look(c)
	if !ok || len(list) != len(c.Uses) {
		return nil, false
	}
	for u, m := range list {
		if m != api.None {
			v.narrow(u, m)
		}
	}
	return v.first()
}

// Witness returns the first assignment that gives a use to a member.
func Witness(c api.Crowd, use, member int) ([]int, bool) {
	v, ok := lookAt(c, use)
	if !ok {
		return nil, false
	}
	v.narrow(use, member)
	return v.first()
}

// first returns the first assignment, if there is one.
func (v view) first() ([]int, bool) {
	r := make([]int, len(v.can))
	for _, g := range v.groups() {
		m, blocked := g.match()
		if len(blocked) > 0 {
			return nil, false
		}
		for i, at := range m.first() {
			r[g.uses[i]] = at
		}
	}
	return r, true
}

// Block returns a set of uses that excludes that a use is that of a member.
func Block(c api.Crowd, use, member int) ([]int, bool) {
	v, ok := lookAt(c, use)
	if !ok || !isIndex(member, len(c.Members)) {
		return nil, false
	}
	v.narrow(use, member)
	for _, g := range v.groups() {
		if _, blocked := g.match(); len(blocked) > 0 {
			return blocked, true
		}
	}
	return nil, false
}

// Blocks reports whether a set of uses excludes that a use is that of a member.
func Blocks(c api.Crowd, use, member int, set []int) bool {
	v, ok := lookAt(c, use)
	if !ok || !isIndex(member, len(c.Members)) || !isPart(c, set) {
		return false
	}
	v.narrow(use, member)
	var admitted members
	for _, u := range set {
		admitted |= v.can[u]
	}
	tickets := 0
	for _, m := range admitted.list() {
		tickets += ticketsOf(c.Members[m], c.Uses[set[0]].Window)
	}
	return len(set) > tickets
}

// isPart reports whether a set is a strictly ascending list of at least one use, all of the same window.
func isPart(c api.Crowd, set []int) bool {
	for i, u := range set {
		if !isIndex(u, len(c.Uses)) || i > 0 && set[i-1] >= u || c.Uses[u].Window != c.Uses[set[0]].Window {
			return false
		}
	}
	return len(set) > 0
}
