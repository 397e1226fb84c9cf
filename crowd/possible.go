package crowd

import "cloak/api"

// Possible returns the members that are possible for a use.
func Possible(c api.Crowd, use int) []int {
	v, ok := lookAt(c, use)
	if !ok {
		return nil
	}
	return v.sets()[use].list()
}

// Sets returns, for each use, the members that are possible.
func Sets(c api.Crowd) [][]int {
	v, ok := look(c)
	if !ok {
		return nil
	}
	return each(v.sets(), members.list)
}

// Named returns, for each use, the only possible member, if there is only one.
func Named(c api.Crowd) []int {
	v, ok := look(c)
	if !ok {
		return nil
	}
	return each(v.sets(), func(s members) int {
		if s.size() != 1 {
			return api.None
		}
		return s.first()
	})
}

// Told returns the members that would be possible for a further use.
func Told(c api.Crowd, use api.Seen) []int {
	v, ok := look(c)
	if !ok || !v.takes(use) {
		return nil
	}
	return v.with(use).sets()[len(c.Uses)].list()
}

// sets returns, for each use, the members that are possible.
func (v view) sets() []members {
	r := make([]members, len(v.can))
	for _, g := range v.groups() {
		m, blocked := g.match()
		if len(blocked) > 0 {
			return make([]members, len(v.can))
		}
		for i, set := range m.sets() {
			r[g.uses[i]] = set
		}
	}
	return r
}
