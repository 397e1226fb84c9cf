package show_test

import (
	"slices"
	"testing"

	"cloak/api"
	"cloak/proof"
	"cloak/show"
)

// element returns any element.
func (w *world) element() int { return w.power(w.s.Group.G, w.exponent()) }

// elements returns n elements.
func (w *world) elements(n int) []int {
	l := make([]int, n)
	for i := range l {
		l[i] = w.element()
	}
	return l
}

// anyRecord returns any record that has form for a task; nobody need know how to prove its goal.
func (w *world) anyRecord(x api.Task) api.Record {
	names, _, atoms := parsed(x)
	r := api.Record{Commits: w.elements(len(names) + 1), Chain: w.elements(max(0, len(x.Revoked)-1)), Escrow: w.elements(x.Quorum - 1)}
	for range x.Passes {
		r.Tickets = append(r.Tickets, api.Ticket{Mark: w.power(w.s.Group.G, w.factor()), First: w.IntN(5), R: -w.IntN(5)})
		r.Spends = append(r.Spends, api.Spend{Dare: w.IntN(5), Answers: make([]int, w.IntN(3))})
		r.Links = append(r.Links, make([]api.Link, w.IntN(3)))
	}
	for range atoms {
		r.Bits = append(r.Bits, w.elements(widthOf(x.Most)))
	}
	return r
}

// copied returns a copy of a record, whose lists may be changed.
func copied(r api.Record) api.Record {
	r.Tickets, r.Spends, r.Links = slices.Clone(r.Tickets), slices.Clone(r.Spends), slices.Clone(r.Links)
	for i := range r.Spends {
		r.Spends[i].Answers = slices.Clone(r.Spends[i].Answers)
	}
	for i, links := range r.Links {
		r.Links[i] = slices.Clone(links)
		for k := range links {
			r.Links[i][k].Spend.Answers = slices.Clone(links[k].Spend.Answers)
		}
	}
	r.Commits, r.Chain, r.Bits, r.Escrow = slices.Clone(r.Commits), slices.Clone(r.Chain), slices.Clone(r.Bits), slices.Clone(r.Escrow)
	for i := range r.Bits {
		r.Bits[i] = slices.Clone(r.Bits[i])
	}
	r.Proof.Dares, r.Proof.Answers = slices.Clone(r.Proof.Dares), slices.Clone(r.Proof.Answers)
	for i := range r.Proof.Dares {
		r.Proof.Dares[i], r.Proof.Answers[i] = slices.Clone(r.Proof.Dares[i]), slices.Clone(r.Proof.Answers[i])
		for k := range r.Proof.Answers[i] {
			r.Proof.Answers[i][k] = slices.Clone(r.Proof.Answers[i][k])
		}
	}
	return r
}

// P6.4: any tasks and records; goals are valid.
func TestGoal(t *testing.T) {
	claims, revoked := 0, map[int]bool{}
	for _, w := range worlds() {
		for range 60 {
			x := w.anyTask().task
			r := w.anyRecord(x)
			goal, e := show.Goal(w.s, x, r)
			if want := w.goalOf(x, r); e != api.OK || !same(goal, want) || !proof.ValidGoal(w.s, goal) {
				t.Fatal(w.s, x, r, e, goal, want)
			}
			if text, want := show.Context(x, r), contextOf(x, r); text != want {
				t.Fatal(text, want)
			}
			claims += len(goal[len(goal)-1].Claims)
			revoked[len(x.Revoked)] = true
		}
	}
	if claims < 400 || !revoked[0] || !revoked[1] || !revoked[2] || !revoked[3] || !revoked[16] {
		t.Error(claims, revoked)
	}
}

// P6.4: the goal of a small record, written out.
func TestGoalExample(t *testing.T) {
	w := small() // the bases 9^1 = 9, 9^4 = 6, 9^6 = 3; Blind is 9^7 = 4
	x := api.Task{Question: "question q { id.age >= 1 }", Passes: []api.Pass{{Name: "id", Pub: 9, Attrs: []string{"age"}}}, Most: 1, Revoked: []int{4, 9}, Dare: 8, Quorum: 2, Jurors: 3}
	r := api.Record{Tickets: []api.Ticket{{Mark: 6}}, Spends: make([]api.Spend, 1), Links: make([][]api.Link, 1), Commits: []int{2, 3}, Chain: []int{8}, Bits: [][]int{{4, 1}}, Escrow: []int{13}}
	bit := func(c, less int) api.Clause {
		return api.Clause{Need: 1, Claims: []api.Claim{{Vars: 1, Eqs: []api.Eq{{Target: c, Terms: []api.Term{{Var: 0, Base: 4}}}}}, {Vars: 1, Eqs: []api.Eq{{Target: less, Terms: []api.Term{{Var: 0, Base: 4}}}}}}}
	}
	want := []api.Clause{
		{Need: 1, Claims: []api.Claim{{Vars: 8, Eqs: []api.Eq{
			{Target: 18, Terms: []api.Term{{Var: 1, Base: 4}, {Var: 0, Base: 6}, {Var: 2, Base: 3}}},
			{Target: 2, Terms: []api.Term{{Var: 2, Base: 9}, {Var: 3, Base: 4}}},
			{Target: 3, Terms: []api.Term{{Var: 0, Base: 9}, {Var: 4, Base: 4}}},
			// Y(1) = 3 / 9^4 = 3 / 6 = 12, and the target is 8 * 12^9 = 8 * 4.
			{Target: 9, Terms: []api.Term{{Var: 0, Base: 12}, {Var: 5, Base: 4}}},
			{Target: 9, Terms: []api.Term{{Var: 6, Base: 8}, {Var: 7, Base: 4}}},
		}}}},
		bit(4, 3), bit(1, 18),
		// The atom is 0 - id.age <= -1: 4^1 * 1^2 / 2 * 9.
		{Need: 1, Claims: []api.Claim{{Vars: 1, Eqs: []api.Eq{{Target: 18, Terms: []api.Term{{Var: 0, Base: 4}}}}}}},
	}
	goal, e := show.Goal(w.s, x, r)
	if e != api.OK || !same(goal, want) {
		t.Error(e, goal)
	}
	if s := show.Context(x, r); s != "5[0;1;8;2;3;]26:question q { id.age >= 1 },1[2:id,]1[9;]1[3:age,]0[]2[4;9;]0[]23[1;6;0;0;0;0;0;1;0;0;1;0;2;2;3;1;8;1;2;4;1;1;13;]5:1[0;]," {
		t.Error(s)
	}
}

// P6.4: the context of any task and record, whether they have form or not; the proof plays no part.
func TestContext(t *testing.T) {
	w := middle()
	for _, x := range []api.Task{{}, {Version: -7, Question: "\x00,;", Passes: make([]api.Pass, 6), Most: -1, Revoked: []int{-5, 1 << 62}, Dare: -2, Quorum: 77, Jurors: -3}, w.task("id.age <= 7")} {
		for _, r := range []api.Record{{}, {Tickets: make([]api.Ticket, 3), Spends: []api.Spend{{Dare: -1, Answers: []int{-3}}}, Links: [][]api.Link{nil, {{Terms: "a,b"}, {Terms: ""}}, {{Terms: "[]"}}}, Commits: []int{-1}, Bits: [][]int{nil, {3, 4}, nil}, Escrow: []int{0, 0}}} {
			want := contextOf(x, r)
			for _, p := range []api.Proof{{}, {Dares: [][]int{{1}}, Answers: [][][]int{{{2}}}}, {Dares: [][]int{{1}}}} {
				r.Proof = p
				if s := show.Context(x, r); s != want {
					t.Error(x, r, s)
				}
			}
		}
	}
}

// P6.4, P6.6: records that have no form.
func TestRecordForm(t *testing.T) {
	for _, w := range worlds()[1:] {
		x := w.task("id.age >= 1 or id.age < 1")
		good := w.anyRecord(x)
		if _, e := show.Goal(w.s, x, good); e != api.OK {
			t.Fatal(w.s, e)
		}
		test := func(want api.Errno, change func(r *api.Record)) {
			t.Helper()
			r := copied(good)
			change(&r)
			goal, e := show.Goal(w.s, x, r)
			if e != want || want != api.OK && len(goal) > 0 {
				t.Error(w.s, r, e)
			}
			if f := show.Check(w.s, x, r); want != api.OK && f != want || f == api.OK {
				t.Error(w.s, r, f)
			}
		}
		for _, f := range []func(r *api.Record) *[]int{
			func(r *api.Record) *[]int { return &r.Commits }, func(r *api.Record) *[]int { return &r.Chain }, func(r *api.Record) *[]int { return &r.Escrow },
			func(r *api.Record) *[]int { return &r.Bits[0] }, func(r *api.Record) *[]int { return &r.Bits[1] },
		} {
			for _, n := range w.notElements() {
				for i := range *f(&good) {
					test(api.ErrForm, func(r *api.Record) { (*f(r))[i] = n })
				}
			}
			test(api.ErrForm, func(r *api.Record) { *f(r) = append(*f(r), 1) })
			test(api.ErrForm, func(r *api.Record) { *f(r) = (*f(r))[1:] })
			test(api.ErrForm, func(r *api.Record) { *f(r) = nil })
			test(api.OK, func(r *api.Record) { (*f(r))[0] = 1 })
		}
		for _, n := range append(w.notElements(), 1) {
			test(api.ErrForm, func(r *api.Record) { r.Tickets[0].Mark = n })
		}
		test(api.ErrForm, func(r *api.Record) { r.Bits = r.Bits[1:] })
		test(api.ErrForm, func(r *api.Record) { r.Bits = append(r.Bits, r.Bits[0]) })
		test(api.ErrForm, func(r *api.Record) { r.Tickets = nil })
		test(api.ErrForm, func(r *api.Record) { r.Spends = nil })
		test(api.ErrForm, func(r *api.Record) { r.Links = nil })
		test(api.ErrForm, func(r *api.Record) { r.Tickets = append(r.Tickets, r.Tickets[0]) })
		test(api.ErrForm, func(r *api.Record) { r.Spends = append(r.Spends, r.Spends[0]) })
		test(api.ErrForm, func(r *api.Record) { r.Links = append(r.Links, nil) })
		test(api.ErrForm, func(r *api.Record) { *r = api.Record{} })
		// What else there is in tickets, spends and links is not part of the form.
		test(api.OK, func(r *api.Record) { r.Tickets[0] = api.Ticket{Mark: good.Tickets[0].Mark, First: -1, R: -5} })
		test(api.OK, func(r *api.Record) { r.Spends[0], r.Links[0] = api.Spend{}, nil })
	}
}

// P6.4: how many elements of Chain there have to be.
func TestChainForm(t *testing.T) {
	w := middle()
	for n := range 17 {
		x := w.task("0 <= 1")
		x.Revoked = nil
		for range n {
			x.Revoked = append(x.Revoked, w.factor())
		}
		r := w.anyRecord(x)
		for k := range 20 {
			r.Chain = w.elements(k)
			goal, e := show.Goal(w.s, x, r)
			if want := k == max(0, n-1); (e == api.OK) != want || e != api.OK && (e != api.ErrForm || len(goal) > 0) {
				t.Error(n, k, e)
			}
		}
	}
}

// logarithm returns the exponent with which a base is an element, in a small group.
func (w *world) logarithm(base, x int) int {
	for k := range w.s.Group.Q {
		if w.power(base, k) == x {
			return k
		}
	}
	panic("no logarithm")
}

// P6.16: records with commitments to any values and bits: each claim of an atom is known to one who knows the exponent of Blind, and if the gap is another number than the bits, the values reveal this exponent.
func TestSoundness(t *testing.T) {
	equal, revealed := 0, 0
	for _, w := range []*world{small(), middle()} {
		q := w.s.Group.Q
		for range 100 {
			x := w.anyTask().task
			names, choices, atoms := parsed(x)
			r := w.anyRecord(x)
			values, blinds := map[string]int{}, map[string]int{}
			for i, name := range names {
				values[name], blinds[name] = w.exponent(), w.exponent()
				if w.IntN(3) > 0 {
					values[name] = w.IntN(x.Most + 1)
				}
				r.Commits[i] = w.commit(values[name], blinds[name])
			}
			numbers, sums := make([]int, len(atoms)), make([]int, len(atoms))
			for i := range atoms {
				numbers[i] = w.IntN(1 << widthOf(x.Most))
				if gap := atoms[i].C - values[atoms[i].Left] + values[atoms[i].Right]; w.IntN(2) == 0 && gap >= 0 && gap < 1<<widthOf(x.Most) {
					numbers[i] = gap
				}
				for k := range r.Bits[i] {
					b := w.exponent()
					r.Bits[i][k] = w.commit(numbers[i]>>k%2, b)
					sums[i] = w.sum(sums[i], w.mul(1<<k, b))
				}
			}
			goal, e := show.Goal(w.s, x, r)
			if e != api.OK {
				t.Fatal(e)
			}
			last := goal[len(goal)-len(choices):]
			for i, c := range choices {
				if last[i].Need != c.Need || len(last[i].Claims) != len(c.Atoms) {
					t.Fatal(goal, choices)
				}
				for k, a := range c.Atoms {
					at := slices.IndexFunc(atoms, func(b api.Pred) bool { return same(a, b) })
					value := w.logarithm(w.s.Blind, last[i].Claims[k].Eqs[0].Target)
					if !proof.Holds(w.s, last[i].Claims[k], []int{value}) {
						t.Fatal(value)
					}
					// Blind^(value - honest) = G^(number - gap)
					wrong := w.sum(numbers[at], -w.sum(a.C, -values[a.Left], values[a.Right]))
					rest := w.sum(value, -sums[at], -blinds[a.Left], blinds[a.Right])
					if wrong == 0 {
						equal++
						if rest != 0 {
							t.Error(x, r, a, value)
						}
					} else {
						revealed++
						if rest == 0 || w.mul(wrong, w.invert(rest)) != w.m.Blind {
							t.Error(x, r, a, value, wrong, rest)
						}
					}
				}
			}
			// The gap that differs from the number by a multiple of Q only is none: 8 * Most < Q.
			if 8*x.Most >= q {
				t.Error(x)
			}
		}
	}
	if equal < 50 || revealed < 50 {
		t.Error(equal, revealed)
	}
}
