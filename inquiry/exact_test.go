package inquiry_test

import (
	"slices"
	"testing"

	"cloak/api"
	"cloak/crowd"
	"cloak/inquiry"
	"cloak/show"
	"cloak/ticket"
)

// citizen is a holder, with the tickets that were issued to it, by their keys.
type citizen struct {
	number int
	held   [][]api.Held
	used   []int // for each key, how many of them
}

// hamlet is a town without gates: what was issued to whom, and what was shown.
type hamlet struct {
	*world
	story
	secrets  []int // of the keys
	citizens []*citizen
}

// settle returns a hamlet with some citizens, who have tickets of several keys.
func (w *world) settle(t *testing.T) *hamlet {
	t.Helper()
	p := &hamlet{world: w}
	p.keys = []api.Pass{w.id(0), w.lib(0), w.id(1)}
	p.secrets = []int{w.secretFor(secretID, 0), w.secretFor(secretLib, 0), w.secretFor(secretID, 1)}
	for _, n := range w.Perm(40)[:5] {
		x := &citizen{number: 500 + n, held: make([][]api.Held, 3), used: make([]int, 3)}
		age, zone, fee := w.IntN(20), w.IntN(3), w.IntN(5)
		for key, attrs := range [][]int{{x.number, age, zone}, {x.number, fee, 0}, {x.number, age, zone}} {
			for range w.IntN(3) {
				if ticket.Usable(w.s, attrs) {
					p.give(x, key, attrs)
				}
			}
		}
		p.citizens = append(p.citizens, x)
		if w.IntN(3) == 0 {
			p.log = append(p.log, x.number)
		}
		if w.IntN(3) == 0 {
			p.log = append(p.log, 1+n)
		}
	}
	return p
}

// give issues a ticket to a citizen.
func (p *hamlet) give(x *citizen, key int, attrs []int) {
	session, held := p.issue(p.secrets[key], attrs...)
	x.held[key] = append(x.held[key], held)
	p.issued = append(p.issued, api.Issue{Key: key, Session: session})
}

// ask returns a task that a gate could have for the passes of a key, at random.
func (p *hamlet) ask() api.Task {
	t := p.anySight(p.story).Task
	if t.Question == question("1 <= 0") {
		t.Question = question("lib.fee >= 1") // nobody could show anything
	}
	t.Dare, t.Quorum, t.Jurors = 1+p.IntN(500), 1, 1
	return t
}

// P10.15, T8: a member is eligible for a use exactly if each of the tickets that were issued to the holder with the key could have made the showing, and the member has as many of them; other tickets could not.
func TestExact(t *testing.T) {
	w := middle()
	eligible, not := 0, 0
	for range 60 {
		p := w.settle(t)
		for range 5 {
			p.seen = append(p.seen, api.Sight{Task: p.ask()})
		}
		c, numbers, e := p.account()
		if e != api.OK {
			t.Fatal(e)
		}
		for i, use := range c.Uses {
			for _, x := range p.citizens {
				m, known := slices.BinarySearch(numbers, x.number)
				for key, l := range x.held {
					if known && c.Members[m].Tickets[key] != len(l) {
						t.Error(x, c.Members[m])
					}
					for _, h := range l {
						could := show.Fits(p.s, p.seen[i].Task, []api.Held{h}) == api.OK
						can := known && key == use.Window && crowd.Eligible(c, use, m)
						if could != can {
							t.Fatal(p.seen[i].Task, x, could, can)
						}
						if key != use.Window {
							continue
						}
						if can {
							eligible++
						} else {
							not++
						}
					}
				}
			}
		}
	}
	if eligible < 200 || not < 200 {
		t.Error(eligible, not)
	}
}

// P10.15, T8: what honest holders do is an assignment of the account, whichever of their uses were opened.
func TestTruth(t *testing.T) {
	w := middle()
	uses, several := 0, 0
	for range 40 {
		p := w.settle(t)
		var made []int
		for range 12 {
			task := p.ask()
			key := slices.IndexFunc(p.keys, func(k api.Pass) bool { return k.Pub == task.Passes[0].Pub && k.Name == task.Passes[0].Name })
			x := p.citizens[p.IntN(len(p.citizens))]
			n := x.used[key]
			if n == len(x.held[key]) || show.Fits(p.s, task, x.held[key][n:n+1]) != api.OK {
				continue
			}
			r, points := p.shown(t, task, x.held[key][n])
			x.used[key]++
			y := api.Sight{Task: task, Record: r}
			if p.IntN(4) == 0 {
				y.Holder = p.reveal(t, task, r, points)
			}
			p.seen, made = append(p.seen, y), append(made, x.number)
		}
		c, numbers, e := p.account()
		if e != api.OK {
			t.Fatal(e)
		}
		var list []int
		for _, n := range made {
			list = append(list, slices.Index(numbers, n))
		}
		if !crowd.Fits(c, list) {
			t.Error(c, list)
		}
		for i, set := range crowd.Sets(c) {
			uses++
			if p.seen[i].Holder != 0 && (len(set) != 1 || numbers[set[0]] != p.seen[i].Holder) {
				t.Error(set)
			}
			if len(set) > 1 {
				several++
			}
		}
	}
	if uses < 60 || several < 20 {
		t.Error(uses, several)
	}
}

// reveal opens a use, by a jury of one juror with one point.
func (p *hamlet) reveal(t *testing.T, task api.Task, r api.Record, points []api.Point) int {
	t.Helper()
	c := &court{p.world, []api.Statute{{Reasons: []string{"theft"}, Quorum: 1, Weights: []int{1}}}, p.jurors(1), task, 0, r, points}
	o, e := c.open("theft", []api.Vote{c.vote(t, 0, "theft")})
	if e != api.OK {
		t.Fatal(e)
	}
	return o.Holder
}

// P10.15: each way in which the account can fail to be exact: a value that is too great, a revocation, and another key.
func TestExactEach(t *testing.T) {
	w := middle()
	_, held := w.issue(w.secretFor(secretID, 0), 9, 20, 1)
	base := story{keys: []api.Pass{w.id(0), w.id(1)}, log: []int{3, 9, 4}, issued: []api.Issue{issue(0, 9, 20, 1)}}
	for i, x := range []struct {
		text  string
		most  int
		known int
		key   int
		want  bool
	}{
		{"id.age >= 18", 100, 0, 0, true}, {"id.age >= 18", 20, 0, 0, true}, {"id.age >= 18", 19, 0, 0, false}, {"id.zone <= 1", 19, 0, 0, true}, {"id.age >= 19 or id.zone = 1", 19, 0, 0, false},
		{"id.age >= 18", 100, 1, 0, true}, {"id.age >= 18", 100, 2, 0, false}, {"id.age >= 18", 100, 3, 0, false}, {"id.age >= 21", 100, 0, 0, false}, {"0 <= 1", 1, 1, 0, true}, {"0 <= 1", 1, 2, 0, false},
	} {
		task := api.Task{Question: question(x.text), Most: x.most, Passes: []api.Pass{w.id(x.key)}, Revoked: base.log[:x.known], Dare: 5, Quorum: 1, Jurors: 1}
		c, _, e := inquiry.Account(base.keys, base.log, base.issued, []api.Sight{{Task: task}})
		if e != api.OK {
			t.Fatal(i, e)
		}
		if crowd.Eligible(c, c.Uses[0], 0) != x.want || (show.Fits(w.s, task, []api.Held{held}) == api.OK) != x.want {
			t.Error(i)
		}
	}
	c, _, _ := inquiry.Account(base.keys, base.log, base.issued, []api.Sight{{Task: api.Task{Question: question("id.age >= 18"), Most: 100, Passes: []api.Pass{w.id(1)}}}})
	if l := crowd.Possible(c, 0); len(l) > 0 || !slices.Equal(c.Members[0].Tickets, []int{1, 0}) {
		t.Error(l)
	}
}
