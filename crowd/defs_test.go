package crowd_test

import (
	"slices"

	"cloak/api"
	"cloak/ask"
)

// eligibleOf reports whether a member is eligible for a use, by the definition.
func eligibleOf(c api.Crowd, u api.Seen, m int) bool {
	holds, e := ask.Holds(c.Questions[u.Question], c.Members[m].Binds)
	known := c.Members[m].Revoked != api.None && c.Members[m].Revoked < u.AsOf
	return holds && e == api.OK && !known && (u.Holder == api.None || u.Holder == m)
}

// ticketsIn returns the tickets of a member for a window.
func ticketsIn(c api.Crowd, m, window int) int {
	n := 0
	for w, k := range c.Members[m].Tickets {
		if w == window {
			n = k
		}
	}
	return n
}

// isAssignment reports whether a list is an assignment, by the definition.
func isAssignment(c api.Crowd, list []int) bool {
	if len(list) != len(c.Uses) {
		return false
	}
	type share struct{ member, window int }
	given := map[share]int{}
	for i, m := range list {
		if m < 0 || m >= len(c.Members) || !eligibleOf(c, c.Uses[i], m) {
			return false
		}
		given[share{m, c.Uses[i].Window}]++
	}
	for s, n := range given {
		if n > ticketsIn(c, s.member, s.window) {
			return false
		}
	}
	return true
}

// lists calls a function for all lists of n numbers from low to high - 1, in lexicographic order.
func lists(n, low, high int, f func([]int)) {
	var list []int
	var extend func()
	extend = func() {
		if len(list) == n {
			f(slices.Clone(list))
			return
		}
		for m := low; m < high; m++ {
			list = append(list, m)
			extend()
			list = list[:len(list)-1]
		}
	}
	extend()
}

// assignments returns all assignments in lexicographic order, by the definition. The first elements of an assignment are one of the first uses.
func assignments(c api.Crowd) [][]int {
	r := [][]int{{}}
	for n := range c.Uses {
		first := c
		first.Uses = c.Uses[:n+1]
		var next [][]int
		for _, l := range r {
			for m := range c.Members {
				if x := append(slices.Clone(l), m); isAssignment(first, x) {
					next = append(next, x)
				}
			}
		}
		r = next
	}
	return r
}

// possibleOf returns the members that some assignment gives a use to.
func possibleOf(c api.Crowd, all [][]int, u int) []int {
	var r []int
	for m := range c.Members {
		if slices.ContainsFunc(all, func(l []int) bool { return l[u] == m }) {
			r = append(r, m)
		}
	}
	return r
}

// blocksOf reports whether a set of uses blocks a member for a use, by the definition.
func blocksOf(c api.Crowd, u, m int, set []int) bool {
	if len(set) == 0 {
		return false
	}
	for i, x := range set {
		if x < 0 || x >= len(c.Uses) || i > 0 && set[i-1] >= x || c.Uses[x].Window != c.Uses[set[0]].Window {
			return false
		}
	}
	tickets := 0
	for k := range c.Members {
		admitted := slices.ContainsFunc(set, func(x int) bool { return eligibleOf(c, c.Uses[x], k) && (x != u || k == m) })
		if admitted {
			tickets += ticketsIn(c, k, c.Uses[set[0]].Window)
		}
	}
	return len(set) > tickets
}

// needOf returns the need of a use, by the definition.
func needOf(wishes []api.Wish, u api.Seen) int {
	need, found := 0, false
	for _, w := range wishes {
		if (w.Question == api.None || w.Question == u.Question) && (!found || w.Least > need) {
			need, found = w.Least, true
		}
	}
	return need
}

// withUse returns the crowd with a further use.
func withUse(c api.Crowd, u api.Seen) api.Crowd {
	c.Uses = append(slices.Clone(c.Uses), u)
	return c
}

// breaksOf reports whether a further use breaks wishes, by the definition.
func breaksOf(c api.Crowd, own []int, u api.Seen, wishes []api.Wish) bool {
	c = withUse(c, u)
	all := assignments(c)
	few := func(i int) bool { return len(possibleOf(c, all, i)) < needOf(wishes, c.Uses[i]) }
	if few(len(c.Uses) - 1) {
		return true
	}
	return slices.ContainsFunc(own, func(i int) bool { return c.Uses[i].Window == u.Window && few(i) })
}

// explainsOf reports whether a subset of the group of a further use explains, by the definition.
func explainsOf(c api.Crowd, own []int, u api.Seen, wishes []api.Wish, subset []int) bool {
	less := c
	less.Uses = nil
	var mine []int
	for i, x := range subset {
		less.Uses = append(less.Uses, c.Uses[x])
		if slices.Contains(own, x) {
			mine = append(mine, i)
		}
	}
	return breaksOf(less, mine, u, wishes)
}

// subsetsOf returns all subsets of an ascending list: those with fewer elements first, and lexicographically among those with as many.
func subsetsOf(l []int) [][]int {
	r := [][]int{{}}
	for _, x := range l {
		for _, s := range r {
			r = append(r, append(slices.Clone(s), x))
		}
	}
	slices.SortFunc(r, func(a, b []int) int {
		if len(a) != len(b) {
			return len(a) - len(b)
		}
		return slices.Compare(a, b)
	})
	return r
}

// groupOf returns the uses of a window.
func groupOf(c api.Crowd, window int) []int {
	var r []int
	for i, u := range c.Uses {
		if u.Window == window {
			r = append(r, i)
		}
	}
	return r
}
