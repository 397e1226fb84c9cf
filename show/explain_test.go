package show_test

import (
	"fmt"
	"math"
	"slices"
	"testing"

	"cloak/api"
	"cloak/show"
	"cloak/ticket"
)

// logarithmOf returns the exponent with which G is the mark of attributes.
func (w *world) logarithmOf(attrs []int) int {
	sum := w.m.Bases[0]
	for i, a := range attrs {
		sum = w.sum(sum, w.mul(w.m.Bases[i+1], a))
	}
	return sum
}

// alias returns the same ticket in the hands of a holder with other attributes, who has it with the same spend for the challenge.
func (w *world) alias(t *testing.T, x api.Task, h api.Held, attrs ...int) api.Held {
	t.Helper()
	spend := w.spend(t, x, h)
	s := w.mul(h.Blinding.S, w.logarithmOf(h.Attrs), w.invert(w.logarithmOf(attrs)))
	other := api.Held{Attrs: attrs, Blinding: api.Blinding{S: s, U: w.factor(), V: w.exponent()}, Ticket: h.Ticket, Links: h.Links}
	for i, e := range slices.Concat([]int{1}, attrs) {
		other.Blinding.Ys = append(other.Blinding.Ys, w.sum(spend.Answers[i], -w.mul(x.Dare, s, e)))
	}
	if !same(w.spend(t, x, other), spend) {
		t.Fatal(h, other)
	}
	return other
}

// tuples returns all lists of n exponents, in a small group.
func (w *world) tuples(n int) [][]int {
	l := [][]int{nil}
	for range n {
		var longer [][]int
		for _, x := range l {
			for k := range w.s.Group.Q {
				longer = append(longer, append(slices.Clone(x), k))
			}
		}
		l = longer
	}
	return l
}

// P6.15: for all coins of some holders in the smallest group: each record that one of them can make with a ticket, each of the others can make with exactly one choice of coins, and Explain finds it.
func TestExplainAll(t *testing.T) {
	w := bare()
	x := w.task("0 <= 1")
	x.Revoked, x.Quorum = nil, 1
	first := w.held(6, 7)
	var holders [][]api.Held
	for _, number := range []int{7, 1, 10} {
		holders = append(holders, []api.Held{w.alias(t, x, first, number)})
	}
	var records []map[string]api.Coins
	for _, held := range holders {
		made := map[string]api.Coins{}
		for _, n := range w.tuples(4) {
			c := api.Coins{Blinds: n[:1], Noise: api.Noise{Nums: [][][]int{{n[1:]}}, Dares: [][]int{{0}}}}
			r, _, e := show.Show(w.s, x, held, c)
			s, ok := show.Encode(r)
			if e != api.OK || !ok {
				t.Fatal(held, c, e)
			}
			if d, twice := made[s]; twice {
				t.Fatal(held, c, d)
			}
			made[s] = c
		}
		records = append(records, made)
	}
	i := 0
	for s, c := range records[0] {
		for k, held := range holders {
			d, ok := records[k][s]
			if !ok {
				t.Fatal(s)
			}
			if i%50 == 0 {
				if got, is := show.Explain(w.s, w.m, x, holders[0], c, held, nil); !is || !same(got, d) {
					t.Error(held, c, got, d)
				}
			}
		}
		i++
	}
}

// P6.7, P6.15, P6.17: for a quorum of two: exactly one choice of the blind, the share and the mask leads to the same commitments and to the same point of a juror.
func TestExplainEscrow(t *testing.T) {
	w := bare()
	x := w.task("0 <= 1")
	x.Revoked, x.Quorum, x.Jurors = []int{9}, 2, 3
	from := []api.Held{w.held(6, 7)}
	c := w.coins(x, from)
	r, points, e := show.Show(w.s, x, from, c)
	if e != api.OK {
		t.Fatal(e)
	}
	for number := 1; number < 11; number++ {
		if number == 3 { // its mark is 1
			continue
		}
		to := []api.Held{w.alias(t, x, from[0], number)}
		for juror := 1; juror <= 3; juror++ {
			d, ok := show.Explain(w.s, w.m, x, from, c, to, []int{juror})
			if ok != (number != 9) {
				t.Fatal(number, ok)
			}
			if !ok {
				continue
			}
			found := 0
			for _, n := range w.tuples(3) {
				escrow, l, is := show.Deal(w.s, number, n[0], n[1:2], n[2:], 3)
				if !is || !same(escrow, r.Escrow) || w.commit(number, n[0]) != r.Commits[0] || l[juror-1] != points[juror-1] {
					continue
				}
				found++
				if !same(n, []int{d.Blinds[0], d.Shares[0], d.Masks[0]}) {
					t.Error(number, juror, n, d)
				}
			}
			again, l, e := show.Show(w.s, x, to, d)
			if found != 1 || e != api.OK || !same(again, r) || l[juror-1] != points[juror-1] {
				t.Error(number, juror, found, e)
			}
			if number != 7 {
				other := juror%3 + 1
				if l[other-1] == points[other-1] {
					t.Error("a second point", number, juror)
				}
			}
		}
	}
}

// jurorsOf returns Quorum - 1 jurors in any order.
func (w *world) jurorsOf(x api.Task) []int {
	l := w.Perm(x.Jurors)[:x.Quorum-1]
	for i := range l {
		l[i]++
	}
	return l
}

// P6.7, P6.14, P6.15: any showings, explained by any holders of the same tickets: exactly by those whose tickets fit.
func TestExplain(t *testing.T) {
	found := map[bool]int{}
	for i, w := range worlds() {
		for range []int{10, 40, 50, 30, 20}[i] {
			x, from := w.anyShowing()
			c := w.coins(x.task, from)
			r, points, e := show.Show(w.s, x.task, from, c)
			if e != api.OK {
				t.Fatal(e)
			}
			for range 8 {
				var to []api.Held
				number := w.factor()
				for _, h := range from {
					attrs := w.usable(number, x.task.Most)
					number = attrs[0]
					to = append(to, w.alias(t, x.task, h, attrs...))
				}
				jurors := w.jurorsOf(x.task)
				d, ok := show.Explain(w.s, w.m, x.task, from, c, to, jurors)
				if want := show.Fits(w.s, x.task, to) == api.OK; ok != want || !ok && !isZeroCoins(d) {
					t.Fatal(w.s, x.task, from, to, ok, d)
				}
				found[ok]++
				if !ok {
					continue
				}
				again, others, e := show.Show(w.s, x.task, to, d)
				if e != api.OK || !same(again, r) {
					t.Fatal(w.s, x.task, from, to, e, again, r)
				}
				for _, j := range jurors {
					if others[j-1] != points[j-1] {
						t.Error(w.s, x.task, from, to, j)
					}
				}
				// Back it leads to the coins with which it began.
				if back, ok := show.Explain(w.s, w.m, x.task, to, d, from, jurors); !ok || !same(back, c) {
					t.Error(w.s, x.task, from, to, c, back)
				}
			}
			if itself, ok := show.Explain(w.s, w.m, x.task, from, c, from, w.jurorsOf(x.task)); !ok || !same(itself, c) {
				t.Error(w.s, x.task, from, c, itself)
			}
		}
	}
	if found[true] < 200 || found[false] < 200 {
		t.Error(found)
	}
}

// P6.15: coins that differ in one number lead to another record, or to other points of the jurors.
func TestExplainUnique(t *testing.T) {
	for _, w := range worlds()[1:] {
		x := w.task("id.age >= 1 or id.age < 1")
		from := []api.Held{w.held(6, w.usable(7, 1)...)}
		c := w.coins(x, from)
		r, points, _ := show.Show(w.s, x, from, c)
		to := []api.Held{w.alias(t, x, from[0], w.usable(8, 1)...)}
		d, ok := show.Explain(w.s, w.m, x, from, c, to, []int{2, 4})
		if !ok {
			t.Fatal(w.s)
		}
		count := 0
		for i := range coinLists(&d) {
			for k, n := range *coinLists(&d)[i] {
				if i > 12 && i%5 > 0 {
					continue
				}
				other := copiedCoins(d)
				(*coinLists(&other)[i])[k] = (n + w.factor()) % w.s.Group.Q
				again, l, e := show.Show(w.s, x, to, other)
				if e == api.OK && same(again, r) && l[1] == points[1] && l[3] == points[3] {
					t.Error(w.s, i, k)
				}
				count++
			}
		}
		if count < 30 {
			t.Error(count)
		}
	}
}

// explained are the arguments of Explain.
type explained struct {
	w        *world
	s        api.Setup
	m        api.Mirror
	task     api.Task
	from, to []api.Held
	coins    api.Coins
	jurors   []int
}

// P6.7: arguments for which there are no coins.
func TestExplainErrors(t *testing.T) {
	for _, w := range worlds()[1:] {
		x := w.task("id.age <= 1")
		from := []api.Held{w.held(6, w.usable(7, 1)...)}
		to := []api.Held{w.alias(t, x, from[0], w.usable(8, 1)...)}
		good := explained{w, w.s, w.m, x, from, to, w.coins(x, from), []int{4, 1}}
		test := func(what any, want bool, change func(y *explained)) {
			t.Helper()
			y := good
			y.m.Bases, y.from, y.to, y.coins = slices.Clone(y.m.Bases), slices.Clone(y.from), slices.Clone(y.to), copiedCoins(y.coins)
			y.task.Passes = slices.Clone(y.task.Passes)
			change(&y)
			if c, ok := show.Explain(y.s, y.m, y.task, y.from, y.coins, y.to, y.jurors); ok != want || !ok && !isZeroCoins(c) {
				t.Error(w.s, what, ok, c)
			}
		}
		test("good", true, func(y *explained) {})
		for _, l := range [][]int{nil, {1}, {1, 2, 3}, {1, 1}, {0, 1}, {1, 5}, {-1, 1}, {1, math.MaxInt}, {math.MinInt, 2}, {1, 2, 1}, {1, 12}} {
			test(l, false, func(y *explained) { y.jurors = l })
		}
		test("all pairs", true, func(y *explained) { y.jurors = []int{2, 3} })
		test("mirror", false, func(y *explained) { y.m.Blind++ })
		test("mirror", false, func(y *explained) { y.m.Blind += w.s.Group.Q })
		test("mirror", false, func(y *explained) { y.m.Bases[1] = y.m.Bases[1]%(w.s.Group.Q-1) + 1 })
		test("mirror", false, func(y *explained) { y.m.Bases = y.m.Bases[1:] })
		test("mirror", false, func(y *explained) { y.m = api.Mirror{} })
		test("setup", false, func(y *explained) { y.s.Blind = 1 })
		test("setup", false, func(y *explained) { y.s = api.Setup{} })
		test("coins", false, func(y *explained) { y.coins = api.Coins{} })
		test("coins", false, func(y *explained) { y.coins.Blinds[0] = w.s.Group.Q })
		test("coins", false, func(y *explained) { y.coins.Noise.Dares[0][0] = 1 })
		test("task", false, func(y *explained) { y.task.Version = -1 })
		test("challenge", false, func(y *explained) { y.task.Dare = y.task.Dare%(w.s.Group.Q-1) + 1 }) // the spends differ then
		test("from", false, func(y *explained) { y.from = nil })
		test("from", false, func(y *explained) { y.from[0].Attrs = slices.Concat(y.from[0].Attrs, []int{0}) })
		test("to", false, func(y *explained) { y.to = nil })
		test("to", false, func(y *explained) { y.to = append(y.to, y.to[0]) })
		test("to", false, func(y *explained) { y.to[0] = api.Held{} })
		test("another ticket", false, func(y *explained) { y.to[0] = w.held(6, w.usable(8, 1)...) })
		test("the same holder's next ticket", false, func(y *explained) { y.to[0] = w.held(6, y.from[0].Attrs...) })
		test("links", false, func(y *explained) {
			y.to[0] = w.lend(w.held(6, w.usable(7, 1)...), y.to[0], "")
		})
		test("links", false, func(y *explained) {
			y.from[0] = w.lend(w.held(6, w.usable(7, 1)...), y.from[0], "")
			y.to[0].Links = w.lend(w.held(6, w.usable(7, 1)...), y.to[0], "").Links
		})
		test("the same links", true, func(y *explained) {
			y.from[0] = w.lend(w.held(6, w.usable(7, 1)...), y.from[0], "")
			y.to[0].Links = y.from[0].Links
		})
		test("what plays no part", true, func(y *explained) {
			y.to[0].Limit, y.to[0].Window, y.to[0].Blinding.U, y.to[0].Blinding.V = 55, -1, w.factor(), w.exponent()
		})
		test("revoked", false, func(y *explained) { y.task.Revoked = []int{y.to[0].Attrs[0]} })
		test("from revoked", false, func(y *explained) { y.task.Revoked = []int{y.from[0].Attrs[0]} })
	}
}

// P6.7: of a ticket with the same Mark, First and spend, but other numbers, or other terms of a link with the same lending challenge, comes another record.
func TestExplainOtherRecord(t *testing.T) {
	w := small()
	x := w.task("id.age <= 1")
	from := []api.Held{w.held(6, w.usable(7, 1)...)}
	c := w.coins(x, from)
	h := from[0].Ticket
	others := 0
	for _, n := range w.tuples(3) {
		y := api.Ticket{Mark: h.Mark, First: h.First, Z: h.Z, A: w.power(9, n[0]), B: w.power(9, n[1]), R: n[2]}
		if y == h || !ticket.Valid(w.s, w.key(6), y) {
			continue
		}
		to := []api.Held{from[0]}
		to[0].Ticket = y
		if show.Fits(w.s, x, to) != api.OK {
			t.Error(y)
		}
		if d, ok := show.Explain(w.s, w.m, x, from, c, to, []int{1, 2}); ok || !isZeroCoins(d) {
			t.Error(y, d)
		}
		others++
	}
	one := []api.Held{w.lend(w.held(6, w.usable(7, 1)...), from[0], "terms")}
	c = w.coins(x, one)
	for i := range 300 {
		terms := fmt.Sprint("terms", i)
		if ticket.LendDare(w.s, h, terms) != ticket.LendDare(w.s, h, "terms") {
			continue
		}
		two := []api.Held{from[0]}
		two[0].Links = slices.Clone(one[0].Links)
		two[0].Links[0].Terms = terms
		if d, ok := show.Explain(w.s, w.m, x, one, c, two, []int{1, 2}); show.Fits(w.s, x, two) != api.OK || ok || !isZeroCoins(d) {
			t.Error(terms, ok)
		}
		others++
	}
	if others < 30 {
		t.Error(others)
	}
}
