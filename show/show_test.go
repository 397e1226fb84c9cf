package show_test

import (
	"math"
	"slices"
	"testing"

	"cloak/api"
	"cloak/proof"
	"cloak/show"
)

// P6.2, P6.5, P6.14: any tickets for any tasks: the errors, the records, the points and the coins that are tossed are those of the definitions, and the records are accepted.
func TestShow(t *testing.T) {
	found := map[api.Errno]int{}
	for i, w := range worlds() {
		for range []int{60, 150, 200, 100, 40}[i] {
			x := w.anyTask()
			held, want := w.anyTickets(x)
			if want != api.OK && found[want] > 150 {
				continue
			}
			found[want]++
			if e := show.Fits(w.s, x.task, held); e != want {
				t.Fatal(w.s, x.task, held, e, want)
			}
			c, e := show.Toss(w.s, x.task, held, "a seed")
			if want != api.OK {
				r, points, f := show.Show(w.s, x.task, held, c)
				if e != want || f != want || !isZeroCoins(c) || !isZeroRecord(r) || len(points) > 0 {
					t.Fatal(w.s, x.task, held, c, e, f)
				}
				continue
			}
			if d := w.tossOf(x.task, held, w.seeded("a seed")); e != api.OK || !same(c, d) {
				t.Fatal(w.s, x.task, held, e, c, d)
			}
			for _, c := range []api.Coins{c, w.coins(x.task, held)} {
				r, points, e := show.Show(w.s, x.task, held, c)
				wanted, all, _ := w.showOf(x.task, held, c)
				if e != api.OK || !same(r, wanted) || !same(points, all) {
					t.Fatal(w.s, x.task, held, c, e, r, points)
				}
				if e := show.Check(w.s, x.task, r); e != api.OK {
					t.Fatal(w.s, x.task, r, e)
				}
			}
		}
	}
	if found[api.OK] < 150 || found[api.ErrUnsat] < 50 || found[api.ErrRange] < 3 || found[api.ErrRevoked] < 10 || found[api.ErrTwice] < 3 {
		t.Error(found)
	}
}

// P6.5: the coins are those of the whole seed.
func TestToss(t *testing.T) {
	w := middle()
	x := w.task("id.age >= 6 or id.town = 3")
	held := []api.Held{w.held(6, 7, 6, 3)}
	for _, seed := range []string{"", "0;", "seed", "seee", "\x00", "a,0;", string(make([]byte, 3000))} {
		c, e := show.Toss(w.s, x, held, seed)
		if d := w.tossOf(x, held, w.seeded(seed)); e != api.OK || !same(c, d) {
			t.Error(seed, e, c, d)
		}
	}
	// Whichever tickets of one holder they are, the coins begin alike; the proven claims depend on the values.
	other := []api.Held{w.held(6, 7, 2, 3)}
	a, _ := show.Toss(w.s, x, held, "seed")
	b, _ := show.Toss(w.s, x, other, "seed")
	if !same(a.Blinds, b.Blinds) || !same(a.Bits, b.Bits) || !same(a.Shares, b.Shares) || !same(a.Masks, b.Masks) || same(a.Noise, b.Noise) {
		t.Error(a, b)
	}
}

// coinLists returns all lists of numbers in coins.
func coinLists(c *api.Coins) []*[]int {
	l := []*[]int{&c.Blinds, &c.Shares, &c.Masks}
	for i := range c.Bits {
		l = append(l, &c.Bits[i])
	}
	for i := range c.Noise.Dares {
		l = append(l, &c.Noise.Dares[i])
		for k := range c.Noise.Nums[i] {
			l = append(l, &c.Noise.Nums[i][k])
		}
	}
	return l
}

// copiedCoins returns a copy of coins, whose lists may be changed.
func copiedCoins(c api.Coins) api.Coins {
	c.Bits, c.Noise.Dares, c.Noise.Nums = slices.Clone(c.Bits), slices.Clone(c.Noise.Dares), slices.Clone(c.Noise.Nums)
	for i := range c.Noise.Nums {
		c.Noise.Nums[i] = slices.Clone(c.Noise.Nums[i])
	}
	for _, p := range coinLists(&c) {
		*p = slices.Clone(*p)
	}
	return c
}

// P6.5: coins that have no form, or whose noise does not fit or match.
func TestCoinsForm(t *testing.T) {
	for _, w := range worlds()[1:] {
		x := w.task("id.age >= 1 or id.age < 1")
		held := []api.Held{w.held(6, w.usable(7, 1)...)}
		good := w.coins(x, held)
		fails := func(what any, change func(c *api.Coins)) {
			t.Helper()
			c := copiedCoins(good)
			change(&c)
			if r, points, e := show.Show(w.s, x, held, c); e != api.ErrForm || !isZeroRecord(r) || len(points) > 0 {
				t.Error(w.s, what, c, e)
			}
		}
		if _, _, e := show.Show(w.s, x, held, copiedCoins(good)); e != api.OK {
			t.Fatal(e)
		}
		for i := range coinLists(&good) {
			for k := range *coinLists(&good)[i] {
				if i > 6 && k > 0 || i > 20 {
					break
				}
				for _, n := range w.notExponents() {
					fails([]int{i, k, n}, func(c *api.Coins) { (*coinLists(c)[i])[k] = n })
				}
			}
			fails(i, func(c *api.Coins) { *coinLists(c)[i] = append(*coinLists(c)[i], 0) })
			if len(*coinLists(&good)[i]) > 0 {
				fails(i, func(c *api.Coins) { *coinLists(c)[i] = (*coinLists(c)[i])[1:] })
				fails(i, func(c *api.Coins) { *coinLists(c)[i] = nil })
			}
		}
		fails("bits", func(c *api.Coins) { c.Bits = c.Bits[1:] })
		fails("bits", func(c *api.Coins) { c.Bits = append(c.Bits, c.Bits[0]) })
		fails("nums", func(c *api.Coins) { c.Noise.Nums = c.Noise.Nums[1:] })
		fails("dares", func(c *api.Coins) { c.Noise.Dares = append(c.Noise.Dares, nil) })
		fails("nothing", func(c *api.Coins) { *c = api.Coins{} })
		// The first claim is proven, so its challenge has to be 0.
		fails("a challenge", func(c *api.Coins) { c.Noise.Dares[0][0] = 1 })
		// Both atoms cannot be true here: one claim of the last clause is proven, and not the other one.
		last := len(good.Noise.Dares) - 1
		proven := slices.Index(good.Noise.Dares[last], 0)
		fails("a choice", func(c *api.Coins) { c.Noise.Dares[last][proven] = w.factor() })
		c := copiedCoins(good)
		c.Noise.Dares[last][1-proven] = w.s.Group.Q - 1
		if _, _, e := show.Show(w.s, x, held, c); e != api.OK {
			t.Error(w.s, e)
		}
	}
}

// P6.5: the error of the tickets comes before that of the coins.
func TestShowOrder(t *testing.T) {
	w := middle()
	x := w.task("id.age >= 6")
	for _, h := range []struct {
		held []api.Held
		want api.Errno
	}{{nil, api.ErrArg}, {[]api.Held{w.held(6, 7, 5, 0)}, api.ErrUnsat}, {[]api.Held{w.held(6, 9, 6, 0)}, api.ErrRevoked}, {[]api.Held{w.held(6, 7, 6, 0)}, api.ErrForm}} {
		if _, _, e := show.Show(w.s, x, h.held, api.Coins{}); e != h.want {
			t.Error(h, e)
		}
	}
}

// P6.14: in a setup as small as can be, each holder and each revoked number.
func TestAcceptance(t *testing.T) {
	w := small()
	x := w.task("id.age >= 1")
	x.Revoked = []int{2, 10, 2}
	for number := 1; number < 11; number++ {
		for age := range 11 {
			if (1+4*number+6*age)%11 == 0 {
				continue // not usable
			}
			held := []api.Held{w.held(6, number, age)}
			want := api.OK
			switch {
			case age > 1:
				want = api.ErrRange
			case age < 1:
				want = api.ErrUnsat
			case number == 2 || number == 10:
				want = api.ErrRevoked
			}
			if e := show.Fits(w.s, x, held); e != want {
				t.Error(number, age, e)
			}
			if want != api.OK {
				continue
			}
			r, points, e := show.Show(w.s, x, held, w.coins(x, held))
			n, _, f := show.Open(w.s, r.Commits[1], r.Escrow, points)
			if e != api.OK || show.Check(w.s, x, r) != api.OK || f != api.OK || n != number {
				t.Error(number, age, e, n, f)
			}
		}
	}
}

// P6.6, P6.14: what is changed in a record, or in its task, is not accepted.
func TestCheck(t *testing.T) {
	w := large()
	x := w.task("id.age >= 1000 or id.town = 3")
	x.Passes = append(x.Passes, api.Pass{Name: "job", Pub: w.key(6), Guests: []int{w.key(5)}})
	held := []api.Held{w.held(6, 7, 65535, 3, 5), w.lend(w.held(6, 1, 2, 3, 4), w.held(5, 7, 0, 1, 2), "two days")}
	good, _, e := show.Show(w.s, x, held, w.coins(x, held))
	if e != api.OK || show.Check(w.s, x, good) != api.OK {
		t.Fatal(e)
	}
	fails := func(what any, want api.Errno, change func(r *api.Record)) {
		t.Helper()
		r := copied(good)
		change(&r)
		if e := show.Check(w.s, x, r); e != want {
			t.Error(what, e)
		}
	}
	fails("tickets", api.ErrTwice, func(r *api.Record) { r.Tickets[1] = r.Tickets[0] })
	fails("marks", api.ErrTwice, func(r *api.Record) { r.Tickets[1].Mark = r.Tickets[0].Mark })
	fails("order", api.ErrCheck, func(r *api.Record) { r.Tickets[0], r.Tickets[1] = r.Tickets[1], r.Tickets[0] })
	fails("spends", api.ErrCheck, func(r *api.Record) { r.Spends[0], r.Spends[1] = r.Spends[1], r.Spends[0] })
	fails("dare", api.ErrCheck, func(r *api.Record) { r.Spends[0].Dare++ })
	fails("links", api.ErrCheck, func(r *api.Record) { r.Links[1] = nil })
	fails("links", api.ErrCheck, func(r *api.Record) { r.Links[0], r.Links[1] = r.Links[1], r.Links[0] })
	fails("terms", api.ErrCheck, func(r *api.Record) { r.Links[1][0].Terms = "two dayz" })
	fails("proof", api.ErrCheck, func(r *api.Record) { r.Proof = api.Proof{} })
	fails("proof", api.ErrCheck, func(r *api.Record) { r.Proof.Dares, r.Proof.Answers = r.Proof.Dares[1:], r.Proof.Answers[1:] })
	for i := range 2 {
		for k, f := range []func(t *api.Ticket) *int{func(t *api.Ticket) *int { return &t.Mark }, func(t *api.Ticket) *int { return &t.First }, func(t *api.Ticket) *int { return &t.Z }, func(t *api.Ticket) *int { return &t.A }, func(t *api.Ticket) *int { return &t.B }} {
			fails([]int{i, k}, api.ErrCheck, func(r *api.Record) { *f(&r.Tickets[i]) = w.times(*f(&r.Tickets[i]), 4) })
		}
		fails(i, api.ErrCheck, func(r *api.Record) { r.Tickets[i].R = (r.Tickets[i].R + 1) % w.s.Group.Q })
		for k := range good.Spends[i].Answers {
			fails([]int{i, k}, api.ErrCheck, func(r *api.Record) { r.Spends[i].Answers[k] = (r.Spends[i].Answers[k] + 1) % w.s.Group.Q })
		}
	}
	for i, f := range []func(r *api.Record) []int{func(r *api.Record) []int { return r.Commits }, func(r *api.Record) []int { return r.Chain }, func(r *api.Record) []int { return r.Escrow }, func(r *api.Record) []int { return r.Bits[0] }, func(r *api.Record) []int { return r.Bits[2] }} {
		for k := range f(&good) {
			fails([]int{i, k}, api.ErrCheck, func(r *api.Record) { f(r)[k] = w.times(f(r)[k], 4) })
			fails([]int{i, k}, api.ErrCheck, func(r *api.Record) { f(r)[k] = w.times(f(r)[k], w.s.Blind) })
		}
	}
	for _, i := range []int{0, 1, len(good.Proof.Dares) - 1} {
		for k := range good.Proof.Dares[i] {
			fails([]int{i, k}, api.ErrCheck, func(r *api.Record) { r.Proof.Dares[i][k] = (r.Proof.Dares[i][k] + 1) % w.s.Group.Q })
			for n := range good.Proof.Answers[i][k] {
				fails([]int{i, k, n}, api.ErrCheck, func(r *api.Record) { r.Proof.Answers[i][k][n] = (r.Proof.Answers[i][k][n] + 1) % w.s.Group.Q })
				fails([]int{i, k, n}, api.ErrCheck, func(r *api.Record) { r.Proof.Answers[i][k][n] += w.s.Group.Q })
			}
		}
	}
	// Another task of the same form has another context.
	for i, change := range []func(y *api.Task){
		func(y *api.Task) { y.Version++ }, func(y *api.Task) { y.Question += " " }, func(y *api.Task) { y.Most-- }, func(y *api.Task) { y.Dare++ }, func(y *api.Task) { y.Jurors++ }, func(y *api.Task) { y.Revoked[1]++ }, func(y *api.Task) { y.Revoked[0], y.Revoked[1] = y.Revoked[1], y.Revoked[0] },
		func(y *api.Task) { y.Passes[1].Name = "jobs" }, func(y *api.Task) { y.Passes[0].Pub = w.key(7) }, func(y *api.Task) { y.Passes[0].Attrs[2] = "f" }, func(y *api.Task) { y.Passes[1].Attrs = []string{"g"} }, func(y *api.Task) { y.Passes[0].Guests = []int{w.key(9)} }, func(y *api.Task) { y.Passes[1].Guests = []int{w.key(5), w.key(9)} },
	} {
		y := x
		y.Passes, y.Revoked = slices.Clone(x.Passes), slices.Clone(x.Revoked)
		y.Passes[0].Attrs = slices.Clone(x.Passes[0].Attrs)
		change(&y)
		if e := show.Check(w.s, y, good); e != api.ErrCheck {
			t.Error(i, e)
		}
		if show.Context(y, good) == show.Context(x, good) {
			t.Error(i, "context")
		}
	}
	if e := show.Check(middle().s, x, good); e != api.ErrArg {
		t.Error(e)
	}
}

// P6.6, P2: the order of the errors of a record.
func TestCheckOrder(t *testing.T) {
	w := middle()
	x := w.task("id.age >= 6")
	x.Passes = append(x.Passes, api.Pass{Name: "job", Pub: w.key(6)})
	held := []api.Held{w.held(6, 7, 6, 0), w.held(6, 7, 6, 1)}
	r, _, e := show.Show(w.s, x, held, w.coins(x, held))
	if e != api.OK {
		t.Fatal(e)
	}
	bad := copied(r)
	bad.Proof, bad.Tickets[1] = api.Proof{}, bad.Tickets[0]
	if e := show.Check(w.s, x, bad); e != api.ErrTwice {
		t.Error(e)
	}
	bad.Commits = nil
	if e := show.Check(w.s, x, bad); e != api.ErrForm {
		t.Error(e)
	}
	x.Dare = 0
	if e := show.Check(w.s, x, bad); e != api.ErrArg {
		t.Error(e)
	}
}

// P6.14: a record that is not accepted can have a right proof: of one who has no ticket of the issuer, or who has spent it for another challenge.
func TestTicketsAreChecked(t *testing.T) {
	w := middle()
	x := w.task("id.age >= 6")
	held := []api.Held{w.held(7, 7, 6, 0)}
	c := w.coins(x, held)
	r, _, know := w.showOf(x, held, c)
	if !proof.Verify(w.s, w.goalOf(x, r), contextOf(x, r), r.Proof) || show.Check(w.s, x, r) != api.ErrCheck {
		t.Error("another issuer")
	}
	x.Passes[0].Guests = []int{w.key(7)}
	r.Proof, _ = proof.Prove(w.s, w.goalOf(x, r), contextOf(x, r), know, c.Noise)
	if !proof.Verify(w.s, w.goalOf(x, r), contextOf(x, r), r.Proof) || show.Check(w.s, x, r) != api.ErrCheck {
		t.Error("a guest")
	}
	held = []api.Held{w.held(6, 7, 6, 0)}
	r, _, know = w.showOf(x, held, w.coins(x, held))
	other := x
	other.Dare = 9
	r.Spends[0] = w.spend(t, other, held[0])
	r.Proof, _ = proof.Prove(w.s, w.goalOf(x, r), contextOf(x, r), know, w.coins(x, held).Noise)
	if !proof.Verify(w.s, w.goalOf(x, r), contextOf(x, r), r.Proof) || show.Check(w.s, x, r) != api.ErrCheck {
		t.Error("another challenge")
	}
	r.Spends[0] = w.spend(t, x, held[0])
	r.Proof, _ = proof.Prove(w.s, w.goalOf(x, r), contextOf(x, r), know, w.coins(x, held).Noise)
	if e := show.Check(w.s, x, r); e != api.OK {
		t.Error(e)
	}
}

// P6.5: the greatest showings.
func TestGreatest(t *testing.T) {
	w := wide()
	x := api.Task{Version: math.MaxInt, Most: 127, Dare: 1018, Quorum: 12, Jurors: 12}
	for n := range 16 {
		x.Revoked = append(x.Revoked, 1000+n)
	}
	var held []api.Held
	for i, name := range []string{"first", "second", "third", "fourth"} {
		p := api.Pass{Name: name, Pub: w.key(i + 1), Attrs: []string{"a", "b", "c", "d", "e"}}
		for g := range 8 {
			p.Guests = append(p.Guests, w.key(10+g))
		}
		x.Passes = append(x.Passes, p)
		h := w.held(10, 999, 127, 0, 0, 127, 127)
		h.Links = nil
		for k := range 4 {
			secret := 11
			if k == 3 {
				secret = i + 1
			}
			next := h
			from := w.held(secret, 1+k, 3, 4, 5, 6, 7)
			first := w.lend(from, api.Held{Ticket: firstOf(next)}, "terms")
			h.Links = append(first.Links, next.Links...)
		}
		held = append(held, h)
	}
	// All 20 names, in constant atoms; and eight other atoms, in as many choices as possible.
	x.Question = "question q { at least 4 of ("
	for i, p := range x.Passes {
		for k, a := range p.Attrs {
			if i+k > 0 {
				x.Question += " , "
			}
			x.Question += p.Name + "." + a + " <= " + p.Name + "." + a
		}
	}
	x.Question += ") and ("
	for n := range 8 {
		if n > 0 {
			x.Question += " or "
		}
		x.Question += "(first.a >= second.d - " + string(rune('1'+n)) + ")"
	}
	x.Question += ") }"
	if e := show.Fits(w.s, x, held); e != api.OK {
		t.Fatal(e)
	}
	r, points, e := show.Show(w.s, x, held, w.coins(x, held))
	if e != api.OK || show.Check(w.s, x, r) != api.OK || len(r.Bits) != 8 || len(r.Commits) != 21 || len(points) != 12 || len(r.Chain) != 15 || len(r.Links[3]) != 4 {
		t.Fatal(e, r)
	}
	if n, _, e := show.Open(w.s, r.Commits[20], r.Escrow, points); n != 999 || e != api.OK {
		t.Error(n, e)
	}
}

// firstOf returns the first ticket of the chain of a ticket.
func firstOf(h api.Held) api.Ticket {
	if len(h.Links) > 0 {
		return h.Links[0].Ticket
	}
	return h.Ticket
}
