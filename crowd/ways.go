package crowd

import "slices"

// ways has, for each set of uses of a group (bit i: the use i of the group), the number of ways in which some members can be given exactly these uses.
type ways []int

// start returns the ways in which no member can be given uses.
func (g group) start() ways {
	w := make(ways, 1<<len(g.can))
	w[0] = 1
	return w
}

// grant computes the ways of a further member from those of others, where it has some tickets.
func (g group) grant(from, to ways, member, tickets int) {
	clear(to)
	n := 0
	var take func(taken, rest uint, left int)
	take = func(taken, rest uint, left int) {
		to[taken] = plus(to[taken], n)
		if left == 0 {
			return
		}
		for rest != 0 {
			use := rest & -rest
			rest &^= use
			take(taken|use, rest, left-1)
		}
	}
	open := g.open(member)
	for taken := range uint(len(from)) {
		if n = from[taken]; n > 0 {
			take(taken, open&^taken, tickets)
		}
	}
}

// open returns the set of uses for which a member is eligible.
func (g group) open(member int) uint {
	var set uint
	for i, can := range g.can {
		if can.has(member) {
			set |= 1 << i
		}
	}
	return set
}

// count returns the number of assignments of a group of at most MaxCounted uses, up to most + 1.
func (g group) count() int {
	w, next := g.start(), g.start()
	for m, tickets := range g.tickets {
		g.grant(w, next, m, tickets)
		w, next = next, w
	}
	return w[len(w)-1]
}

// shares returns, for each member, the number of assignments that give a use to it, of a group of at most MaxCounted uses that has at least one assignment, and at most `most` of them.
// A member that is given the use has one ticket less for the other uses, and shares them with the members before it and those after it.
func (g group) shares(use int) []int {
	at := slices.Index(g.uses, use)
	others := group{can: slices.Concat(g.can[:at], g.can[at+1:])}
	before := []ways{others.start()}
	for m, tickets := range g.tickets {
		w := others.start()
		others.grant(before[m], w, m, tickets)
		before = append(before, w)
	}
	r := make([]int, len(g.tickets))
	after, next := others.start(), others.start()
	for m, tickets := range slices.Backward(g.tickets) {
		if tickets > 0 && g.can[at].has(m) {
			others.grant(after, next, m, tickets-1)
			r[m] = before[m].meet(next)
		}
		others.grant(after, next, m, tickets)
		after, next = next, after
	}
	return r
}

// meet returns the number of ways in which each use is given either by these ways or by the others.
func (w ways) meet(others ways) int {
	n := 0
	for taken, some := range w {
		n += some * others[len(w)-1-taken] // the others have the complement of the set
	}
	return n
}
