package crowd

import (
	"slices"

	"cloak/api"
)

// Keeps reports whether a further use keeps the wishes of a holder.
func Keeps(c api.Crowd, own []int, use api.Seen, wishes []api.Wish) bool {
	v, ok := look(c)
	return ok && v.keeps(own, use, needs(c, wishes))
}

// Explain returns the first smallest set of earlier uses that explains why a further use breaks wishes.
func Explain(c api.Crowd, own []int, use api.Seen, wishes []api.Wish) ([]int, api.Errno) {
	v, ok := look(c)
	if !ok || !v.asks(own, use) {
		return nil, api.ErrArg
	}
	uses := v.group(use.Window).uses
	if len(uses) > api.MaxCounted {
		return nil, api.ErrFull
	}
	need := needs(c, wishes)
	mine := make(map[int]bool)
	for _, u := range own {
		mine[u] = true
	}
	explains := func(subset []int) bool {
		var places []int // of the holder's own uses in the subset
		for i, u := range subset {
			if mine[u] {
				places = append(places, i)
			}
		}
		return v.of(subset).with(use).breaks(places, need)
	}
	for n := range len(uses) + 1 {
		if subset, ok := choose(uses, n, explains); ok {
			return subset, api.OK
		}
	}
	return nil, api.ErrNone
}

// choose returns the first list of n elements of a list, in their order, for which a function is true.
func choose(l []int, n int, is func([]int) bool) ([]int, bool) {
	var chosen []int
	var extend func(from int) bool
	extend = func(from int) bool {
		if len(chosen) == n {
			return is(chosen)
		}
		for i := from; i < len(l); i++ {
			chosen = append(chosen, l[i])
			if extend(i + 1) {
				return true
			}
			chosen = chosen[:len(chosen)-1]
		}
		return false
	}
	ok := extend(0)
	return chosen, ok
}

// Relax returns the index of the first cheapest option that keeps wishes.
func Relax(c api.Crowd, own []int, options []api.Option, wishes []api.Wish) (int, bool) {
	v, ok := look(c)
	if !ok || len(options) > api.MaxOptions {
		return api.None, false
	}
	need := needs(c, wishes)
	best := api.None
	for i, o := range options {
		if (best == api.None || o.Cost < options[best].Cost) && v.keeps(own, o.Use, need) {
			best = i
		}
	}
	return best, best != api.None
}

// needs returns the need of each question. Less than 0 is the same as 0, since no set has fewer members.
func needs(c api.Crowd, wishes []api.Wish) []int {
	r := make([]int, len(c.Questions))
	for _, w := range wishes {
		for q := range r {
			if w.Question == api.None || w.Question == q {
				r[q] = max(r[q], w.Least)
			}
		}
	}
	return r
}

// asks reports whether a holder of some uses can make a further use.
func (v view) asks(own []int, use api.Seen) bool {
	return v.takes(use) && every(own, func(u int) bool { return isIndex(u, len(v.can)) })
}

// keeps reports whether a holder of some uses can make a further use, and it does not break wishes, from which each question has a need.
func (v view) keeps(own []int, use api.Seen, need []int) bool {
	return v.asks(own, use) && !v.with(use).breaks(own, need)
}

// breaks reports whether the last use breaks wishes of a holder of some of the others.
func (v view) breaks(own []int, need []int) bool {
	last := len(v.can) - 1
	further, sets := v.crowd.Uses[last], v.sets()
	return slices.ContainsFunc(slices.Concat(own, []int{last}), func(u int) bool {
		use := v.crowd.Uses[u]
		return use.Window == further.Window && sets[u].size() < need[use.Question]
	})
}
