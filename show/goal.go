package show

import (
	"slices"

	"cloak/api"
	"cloak/proof"
)

// Goal returns the goal of the proof of a record.
func Goal(s api.Setup, t api.Task, r api.Record) ([]api.Clause, api.Errno) {
	p, e := prepare(s, t)
	if e != api.OK {
		return nil, e
	}
	if !p.recordForm(r) {
		return nil, api.ErrForm
	}
	return p.goal(r), api.OK
}

// recordForm reports whether a record has form.
func (p plan) recordForm(r api.Record) bool {
	n := len(p.task.Passes)
	if len(r.Tickets) != n || len(r.Spends) != n || len(r.Links) != n || !p.proper(marksOf(r.Tickets)...) {
		return false
	}
	if len(r.Commits) != len(p.names)+1 || len(r.Chain) != p.chained() || len(r.Escrow) != p.task.Quorum-1 {
		return false
	}
	return p.elements(r.Commits...) && p.elements(r.Chain...) && p.elements(r.Escrow...) && p.bitsForm(r.Bits, p.elements)
}

// chained returns how many elements the Chain of a record has.
func (p plan) chained() int { return max(0, len(p.task.Revoked)-1) }

// bitsForm reports whether there are, for each atom, as many numbers as the width of Most, all of which are allowed.
func (p plan) bitsForm(rows [][]int, allowed func(l ...int) bool) bool {
	width := Width(p.task.Most)
	return len(rows) == len(p.atoms) && !slices.ContainsFunc(rows, func(row []int) bool { return len(row) != width || !allowed(row...) })
}

// marksOf returns the marks of tickets.
func marksOf(l []api.Ticket) []int { return each(l, func(t api.Ticket) int { return t.Mark }) }

// goal returns the goal of a record that has form.
func (p plan) goal(r api.Record) []api.Clause {
	goal := []api.Clause{{Need: 1, Claims: []api.Claim{p.identity(r)}}}
	var targets []int
	for i, a := range p.atoms {
		goal = append(goal, proof.Bits(p.Setup, r.Bits[i])...)
		targets = append(targets, p.target(a, r.Commits, r.Bits[i]))
	}
	for _, c := range p.choices {
		claims := each(c.Atoms, func(a api.Pred) api.Claim {
			w := &planner{group: p.group}
			w.equation(targets[indexOf(p.atoms, a)], api.Term{Var: w.variables(1), Base: p.Blind})
			return w.claim
		})
		goal = append(goal, api.Clause{Need: c.Need, Claims: claims})
	}
	return goal
}

// target returns the element that is a power of Blind if the gap of an atom is the number with the given bits.
func (p plan) target(a api.Pred, commits, bits []int) int {
	weight, _ := proof.Weigh(p.Setup, bits)
	left, right := p.of(a.Left, commits, 1), p.of(a.Right, commits, 1)
	return p.over(p.over(p.times(weight, left), right), p.power(p.Group.G, a.C))
}

// planner allocates the variables of a claim, and collects its equations.
type planner struct {
	group
	claim api.Claim
}

// variables allocates n variables, and returns the first one.
func (w *planner) variables(n int) int {
	first := w.claim.Vars
	w.claim.Vars += n
	return first
}

func (w *planner) equation(target int, terms ...api.Term) {
	w.claim.Eqs = append(w.claim.Eqs, api.Eq{Target: target, Terms: terms})
}

// identity returns the claim that the tickets are those of one holder, who has not been revoked, and whose attributes and number are in the commitments.
func (p plan) identity(r api.Record) api.Claim {
	w := &planner{group: p.group}
	number := w.variables(1)
	inverses := each(r.Tickets, func(t api.Ticket) int { return w.pass(t.Mark, number) })
	blinds := w.variables(len(r.Commits))
	for i, at := range p.places {
		w.opens(r.Commits[i], inverses[at.pass]+at.attr, blinds+i)
	}
	last := len(p.names)
	w.opens(r.Commits[last], number, blinds+last)
	w.revocation(p.task.Revoked, r.Commits[last], r.Chain, number)
	return w.claim
}

// pass adds the equation of a ticket with a mark, and returns the variable for the inverse of S; those for the attributes follow it.
func (w *planner) pass(mark, number int) int {
	inverse := w.variables(1)
	terms := []api.Term{{Var: inverse, Base: w.over(1, mark)}, {Var: number, Base: w.Bases[1]}}
	for _, base := range w.Bases[2:] {
		terms = append(terms, api.Term{Var: w.variables(1), Base: base})
	}
	w.equation(w.over(1, w.Bases[0]), terms...)
	return inverse
}

// opens adds the equation that an element is a commitment to the value of a variable, with that of another one as its blind.
func (w *planner) opens(commit, value, blind int) {
	w.equation(commit, api.Term{Var: value, Base: w.Group.G}, api.Term{Var: blind, Base: w.Blind})
}

// revocation adds the equations by which the product of all differences between the number and the entries of the revocation log is not 0.
func (w *planner) revocation(revoked []int, commit int, chain []int, number int) {
	if len(revoked) == 0 {
		return
	}
	products := slices.Concat([]int{w.over(commit, w.power(w.Group.G, revoked[0]))}, chain)
	for k, y := range chain {
		before := products[k]
		w.equation(w.times(y, w.power(before, revoked[k+1])), api.Term{Var: number, Base: before}, api.Term{Var: w.variables(1), Base: w.Blind})
	}
	inverse := w.variables(1)
	w.equation(w.Group.G, api.Term{Var: inverse, Base: products[len(chain)]}, api.Term{Var: w.variables(1), Base: w.Blind})
}
