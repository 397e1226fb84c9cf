package show_test

import (
	"crypto/sha256"
	"fmt"
	"math/big"
	"slices"
	"strings"
	"testing"

	"cloak/api"
	"cloak/ask"
	"cloak/proof"
	"cloak/show"
	"cloak/ticket"
)

// This file repeats the definitions of the chapter, as directly as possible.

// nums returns the encoding of numbers.
func nums(l ...int) string {
	var b strings.Builder
	fmt.Fprintf(&b, "%d[", len(l))
	for _, x := range l {
		fmt.Fprintf(&b, "%d;", x)
	}
	return b.String() + "]"
}

// texts returns the encoding of texts.
func texts(l ...string) string {
	all := fmt.Sprintf("%d[", len(l))
	for _, x := range l {
		all += text(x)
	}
	return all + "]"
}

// text returns the encoding of a text.
func text(s string) string { return fmt.Sprintf("%d:%s,", len(s), s) }

// encodingOf returns the encoding of a record, with a given encoding of its proof.
func encodingOf(r api.Record, proof string) string {
	var terms []string
	var l []int
	add := func(n ...int) { l = append(l, n...) }
	addTicket := func(t api.Ticket) { add(t.Mark, t.First, t.Z, t.A, t.B, t.R) }
	addSpend := func(x api.Spend) { add(x.Dare, len(x.Answers)); add(x.Answers...) }
	add(len(r.Tickets))
	for _, t := range r.Tickets {
		addTicket(t)
	}
	add(len(r.Spends))
	for _, x := range r.Spends {
		addSpend(x)
	}
	add(len(r.Links))
	for _, links := range r.Links {
		add(len(links))
		for _, x := range links {
			addTicket(x.Ticket)
			addSpend(x.Spend)
			terms = append(terms, x.Terms)
		}
	}
	add(len(r.Commits))
	add(r.Commits...)
	add(len(r.Chain))
	add(r.Chain...)
	add(len(r.Bits))
	for _, row := range r.Bits {
		add(len(row))
		add(row...)
	}
	add(len(r.Escrow))
	add(r.Escrow...)
	return texts(terms...) + nums(l...) + text(proof)
}

// contextOf returns the context of a record.
func contextOf(x api.Task, r api.Record) string {
	var names []string
	var pubs []int
	parts := ""
	for _, p := range x.Passes {
		names, pubs = append(names, p.Name), append(pubs, p.Pub)
		parts += texts(p.Attrs...) + nums(p.Guests...)
	}
	return nums(x.Version, x.Most, x.Dare, x.Quorum, x.Jurors) + text(x.Question) + texts(names...) + nums(pubs...) + parts + nums(x.Revoked...) + encodingOf(r, "1[0;]")
}

// parsed returns the names, the choices and the atoms of the predicate of a valid task.
func parsed(x api.Task) ([]string, []api.Choice, []api.Pred) {
	_, p, _, _ := ask.Parse(x.Question)
	choices, _ := ask.Normal(p)
	seen := map[string]bool{}
	var atoms []api.Pred
	for _, c := range choices {
		for _, a := range c.Atoms {
			if !seen[fmt.Sprint(a)] {
				atoms = append(atoms, a)
			}
			seen[fmt.Sprint(a)] = true
		}
	}
	return ask.Names(p), choices, atoms
}

// meant returns the index of the pass and of the attribute that a name means.
func meant(x api.Task, name string) (int, int) {
	for i, p := range x.Passes {
		for k, a := range p.Attrs {
			if p.Name+"."+a == name {
				return i, k + 1
			}
		}
	}
	panic("no attribute " + name)
}

// widthOf returns the width of a greatest value.
func widthOf(most int) int {
	n := 0
	for 1<<n <= 2*most {
		n++
	}
	return n
}

// goalOf returns the goal of a record that has form. The variables of the first claim have names here.
func (w *world) goalOf(x api.Task, r api.Record) []api.Clause {
	names, choices, atoms := parsed(x)
	m, n, g, blind := len(w.s.Bases)-2, len(x.Revoked), w.s.Group.G, w.s.Blind
	vars := []string{"number"}
	add := func(l ...any) { vars = append(vars, fmt.Sprint(l...)) }
	for p := range x.Passes {
		add("S", p)
		for k := 1; k <= m; k++ {
			add("attribute", p, "/", k)
		}
	}
	for i := 0; i <= len(names); i++ {
		add("blind", i)
	}
	if n >= 1 {
		for k := 1; k <= n-1; k++ {
			add("step", k)
		}
		add("inverse")
		add("last")
	}
	term := func(base int, l ...any) api.Term {
		return api.Term{Var: slices.Index(vars, fmt.Sprint(l...)), Base: base}
	}
	var eqs []api.Eq
	for p := range x.Passes {
		e := api.Eq{Target: w.over(1, w.s.Bases[0]), Terms: []api.Term{term(w.over(1, r.Tickets[p].Mark), "S", p), term(w.s.Bases[1], "number")}}
		for k := 1; k <= m; k++ {
			e.Terms = append(e.Terms, term(w.s.Bases[k+1], "attribute", p, "/", k))
		}
		eqs = append(eqs, e)
	}
	for i, name := range names {
		p, k := meant(x, name)
		eqs = append(eqs, api.Eq{Target: r.Commits[i], Terms: []api.Term{term(g, "attribute", p, "/", k), term(blind, "blind", i)}})
	}
	last := r.Commits[len(names)]
	eqs = append(eqs, api.Eq{Target: last, Terms: []api.Term{term(g, "number"), term(blind, "blind", len(names))}})
	y := func(k int) int {
		if k == 1 {
			return w.over(last, w.power(g, x.Revoked[0]))
		}
		return r.Chain[k-2]
	}
	for k := 2; k <= n; k++ {
		eqs = append(eqs, api.Eq{Target: w.times(y(k), w.power(y(k-1), x.Revoked[k-1])), Terms: []api.Term{term(y(k-1), "number"), term(blind, "step", k-1)}})
	}
	if n >= 1 {
		eqs = append(eqs, api.Eq{Target: g, Terms: []api.Term{term(y(n), "inverse"), term(blind, "last")}})
	}
	goal := []api.Clause{{Need: 1, Claims: []api.Claim{{Vars: len(vars), Eqs: eqs}}}}
	power := func(c int) api.Claim {
		return api.Claim{Vars: 1, Eqs: []api.Eq{{Target: c, Terms: []api.Term{{Var: 0, Base: blind}}}}}
	}
	for i := range atoms {
		for _, b := range r.Bits[i] {
			goal = append(goal, api.Clause{Need: 1, Claims: []api.Claim{power(b), power(w.over(b, g))}})
		}
	}
	element := func(name string) int {
		if name == "" {
			return 1
		}
		return r.Commits[slices.Index(names, name)]
	}
	for _, c := range choices {
		clause := api.Clause{Need: c.Need}
		for _, a := range c.Atoms {
			target := w.times(element(a.Left), w.power(element(a.Right), -1), w.power(g, -a.C))
			for k, b := range r.Bits[slices.IndexFunc(atoms, func(b api.Pred) bool { return fmt.Sprint(a) == fmt.Sprint(b) })] {
				target = w.times(target, w.power(b, 1<<k))
			}
			clause.Claims = append(clause.Claims, power(target))
		}
		goal = append(goal, clause)
	}
	return goal
}

// showOf returns the record and the points for tickets that fit and coins that have form, and the knowledge of the holder.
func (w *world) showOf(x api.Task, held []api.Held, c api.Coins) (api.Record, []api.Point, [][]api.Know) {
	names, choices, atoms := parsed(x)
	number := held[0].Attrs[0]
	values, blinds := map[string]int{}, map[string]int{}
	first := []int{number}
	var r api.Record
	for _, h := range held {
		spend, _ := ticket.Use(w.s, h.Attrs, h.Blinding, x.Dare)
		r.Tickets, r.Links, r.Spends = append(r.Tickets, h.Ticket), append(r.Links, h.Links), append(r.Spends, spend)
		first = append(append(first, w.invert(h.Blinding.S)), h.Attrs[1:]...)
	}
	for i, name := range names {
		p, k := meant(x, name)
		values[name], blinds[name] = held[p].Attrs[k], c.Blinds[i]
		r.Commits = append(r.Commits, w.commit(values[name], c.Blinds[i]))
	}
	last := c.Blinds[len(names)]
	r.Commits = append(r.Commits, w.commit(number, last))
	first = append(first, c.Blinds[:len(names)+1]...)
	// before is the product of the differences to the entries of the log before k, and blind that of the commitment to it.
	before, blind := 1, last
	for k, x := range x.Revoked {
		before = w.mul(before, w.sum(number, -x))
		if k > 0 {
			next := c.Blinds[len(names)+k]
			r.Chain = append(r.Chain, w.commit(before, next))
			first = append(first, w.sum(next, -w.mul(blind, w.sum(number, -x))))
			blind = next
		}
	}
	if len(x.Revoked) > 0 {
		first = append(first, w.invert(before), w.sum(-w.mul(w.invert(before), blind)))
	}
	know := [][]api.Know{{{Has: true, Values: first}}}
	proofs := map[string]api.Know{}
	for i, a := range atoms {
		gap := a.C - values[a.Left] + values[a.Right]
		bits := gap
		if gap < 0 {
			bits = 0
		}
		var row []int
		sum := w.sum(blinds[a.Left], -blinds[a.Right])
		for k := range widthOf(x.Most) {
			bit := bits >> k % 2
			row = append(row, w.commit(bit, c.Bits[i][k]))
			both := []api.Know{{}, {}}
			both[bit] = api.Know{Has: true, Values: []int{c.Bits[i][k]}}
			know = append(know, both)
			sum = w.sum(sum, w.mul(1<<k, c.Bits[i][k]))
		}
		r.Bits = append(r.Bits, row)
		if gap >= 0 {
			proofs[fmt.Sprint(a)] = api.Know{Has: true, Values: []int{sum}}
		}
	}
	for _, choice := range choices {
		var l []api.Know
		for _, a := range choice.Atoms {
			l = append(l, proofs[fmt.Sprint(a)])
		}
		know = append(know, l)
	}
	for i, s := range c.Shares {
		r.Escrow = append(r.Escrow, w.commit(s, c.Masks[i]))
	}
	r.Proof, _ = proof.Prove(w.s, w.goalOf(x, r), contextOf(x, r), know, c.Noise)
	return r, w.pointsOf(number, last, c.Shares, c.Masks, x.Jurors), know
}

// pointsOf returns the points of jurors.
func (w *world) pointsOf(number, blind int, shares, masks []int, jurors int) []api.Point {
	var l []api.Point
	for j := 1; j <= jurors; j++ {
		share, mask, power := number, blind, 1
		for i, s := range shares {
			power = w.mul(power, j)
			share, mask = w.sum(share, w.mul(s, power)), w.sum(mask, w.mul(masks[i], power))
		}
		l = append(l, api.Point{Juror: j, Share: share, Mask: mask})
	}
	return l
}

// tossOf returns the coins that are tossed with numbers that come from next, for tickets that fit.
func (w *world) tossOf(x api.Task, held []api.Held, next func() int) api.Coins {
	names, _, atoms := parsed(x)
	list := func(n int) []int {
		l := make([]int, n)
		for i := range l {
			l[i] = next()
		}
		return l
	}
	c := api.Coins{Blinds: list(len(names) + 1 + max(0, len(x.Revoked)-1))}
	for range atoms {
		c.Bits = append(c.Bits, list(widthOf(x.Most)))
	}
	c.Shares = list(x.Quorum - 1)
	c.Masks = list(x.Quorum - 1)
	r, _, know := w.showOf(x, held, c)
	for i, clause := range w.goalOf(x, r) {
		need := clause.Need
		var dares []int
		var all [][]int
		for k, claim := range clause.Claims {
			if know[i][k].Has && need > 0 {
				dares = append(dares, 0)
				need--
			} else {
				dares = append(dares, next())
			}
			all = append(all, list(claim.Vars))
		}
		c.Noise.Dares, c.Noise.Nums = append(c.Noise.Dares, dares), append(c.Noise.Nums, all)
	}
	return c
}

// seeded returns a source of the numbers that belong to a seed.
func (w *world) seeded(seed string) func() int {
	i := -1
	return func() int {
		i++
		digest := sha256.Sum256([]byte(text(seed) + fmt.Sprintf("%d;", i)))
		x := new(big.Int).SetBytes(digest[:])
		return int(x.Mod(x, big.NewInt(int64(w.s.Group.Q))).Int64())
	}
}

// coins returns any coins for tickets that fit.
func (w *world) coins(x api.Task, held []api.Held) api.Coins { return w.tossOf(x, held, w.exponent) }

// same reports whether two values are printed alike, so that an empty list may be nil or not.
func same(a, b any) bool { return fmt.Sprint(a) == fmt.Sprint(b) }

func isZeroRecord(r api.Record) bool { return same(r, api.Record{}) }

func isZeroCoins(c api.Coins) bool { return same(c, api.Coins{}) }

// quiz is a text between the braces of a question, and what it says.
type quiz struct {
	text  string
	holds func(values map[string]int) bool
}

// sides returns a side of a comparison: a name, or nothing, and a number.
func (w *world) side(names []string, most int) (string, func(values map[string]int) int) {
	n := w.IntN(min(most, 20) + 1)
	if w.IntN(20) == 0 {
		n = w.IntN(most + 1)
	}
	if len(names) == 0 || w.IntN(3) == 0 {
		return fmt.Sprint(n), func(map[string]int) int { return n }
	}
	name := names[w.IntN(len(names))]
	switch w.IntN(4) {
	case 0:
		return fmt.Sprint(name, " + ", n), func(values map[string]int) int { return values[name] + n }
	case 1:
		return fmt.Sprint(name, " - ", n), func(values map[string]int) int { return values[name] - n }
	}
	return name, func(values map[string]int) int { return values[name] }
}

// quiz returns any question about names, with a number of levels.
func (w *world) quiz(names []string, most, levels int) quiz {
	if levels <= 1 || w.IntN(4) == 0 {
		a, x := w.side(names, most)
		b, y := w.side(names, most)
		op := []string{"<", "<=", ">", ">=", "=", "!="}[w.IntN(6)]
		return quiz{a + " " + op + " " + b, func(values map[string]int) bool {
			x, y := x(values), y(values)
			return map[string]bool{"<": x < y, "<=": x <= y, ">": x > y, ">=": x >= y, "=": x == y, "!=": x != y}[op]
		}}
	}
	var l []quiz
	var parts []string
	for range 1 + w.IntN(3) {
		q := w.quiz(names, most, levels-1)
		l, parts = append(l, q), append(parts, "("+q.text+")")
	}
	count := func(values map[string]int) int {
		n := 0
		for _, q := range l {
			if q.holds(values) {
				n++
			}
		}
		return n
	}
	switch w.IntN(5) {
	case 0:
		return quiz{strings.Join(parts, " and "), func(values map[string]int) bool { return count(values) == len(l) }}
	case 1:
		return quiz{strings.Join(parts, " or "), func(values map[string]int) bool { return count(values) > 0 }}
	case 2:
		return quiz{"not " + parts[0], func(values map[string]int) bool { return !l[0].holds(values) }}
	}
	need := 1 + w.IntN(len(l))
	return quiz{fmt.Sprint("at least ", need, " of ("+strings.Join(parts, ", ")+")"), func(values map[string]int) bool { return count(values) >= need }}
}

// asked is a valid task, with what its question says, and the secrets of the issuers of its passes.
type asked struct {
	task    api.Task
	holds   func(values map[string]int) bool
	secrets []int
}

// anyTask returns any valid task.
func (w *world) anyTask() asked {
	for {
		var x asked
		x.task = api.Task{Version: w.IntN(5), Most: 1 + w.IntN(w.most()), Dare: w.factor(), Jurors: 1 + w.IntN(10)}
		if w.IntN(2) == 0 {
			x.task.Most = min(9, w.most())
		}
		x.task.Quorum = 1 + w.IntN(min(4, x.task.Jurors))
		for range []int{0, 0, 1, 2, 3, 16}[w.IntN(6)] {
			x.task.Revoked = append(x.task.Revoked, w.factor())
		}
		var names []string
		for i := range 1 + w.IntN(3) {
			x.secrets = append(x.secrets, 1+w.IntN(3))
			p := api.Pass{Name: []string{"id", "job", "card"}[i], Pub: w.key(x.secrets[i]), Attrs: []string{"a", "b", "c", "d", "e"}[:w.IntN(len(w.s.Bases)-1)]}
			for _, a := range p.Attrs {
				names = append(names, p.Name+"."+a)
			}
			x.task.Passes = append(x.task.Passes, p)
		}
		q := w.quiz(names, x.task.Most, 3)
		x.task.Question, x.holds = "question q { "+q.text+" }", q.holds
		if show.Ready(w.s, x.task) == api.OK {
			return x
		}
	}
}

// anyTickets returns tickets of any holder for a task, and what Fits has to return for them.
func (w *world) anyTickets(x asked) ([]api.Held, api.Errno) {
	number := w.factor()
	var held []api.Held
	values := map[string]int{}
	marks := map[int]bool{}
	for i, p := range x.task.Passes {
		most := x.task.Most
		if w.IntN(6) == 0 {
			most++
		}
		attrs := w.usable(number, min(most, w.s.Group.Q-1))
		number = attrs[0]
		if i > 0 && held[0].Attrs[0] != number {
			return w.anyTickets(x)
		}
		h := w.held(x.secrets[i], attrs...)
		held = append(held, h)
		marks[h.Ticket.Mark] = true
		for k, a := range p.Attrs {
			values[p.Name+"."+a] = attrs[k+1]
		}
	}
	names, _, _ := parsed(x.task)
	tooGreat := slices.ContainsFunc(names, func(name string) bool { return values[name] > x.task.Most })
	switch {
	case len(marks) < len(held):
		return held, api.ErrTwice
	case tooGreat:
		return held, api.ErrRange
	case !x.holds(values):
		return held, api.ErrUnsat
	case slices.Contains(x.task.Revoked, number):
		return held, api.ErrRevoked
	}
	return held, api.OK
}

// anyShowing returns a task, and tickets that fit it.
func (w *world) anyShowing() (asked, []api.Held) {
	for {
		x := w.anyTask()
		for range 20 {
			if held, want := w.anyTickets(x); want == api.OK {
				return x, held
			}
		}
	}
}

// spend returns the spend of a ticket for the challenge of a task.
func (w *world) spend(t *testing.T, x api.Task, h api.Held) api.Spend {
	t.Helper()
	spend, ok := ticket.Use(w.s, h.Attrs, h.Blinding, x.Dare)
	if !ok {
		t.Fatal("no spend")
	}
	return spend
}
