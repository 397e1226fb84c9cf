package show_test

import (
	"fmt"
	"slices"
	"testing"

	"cloak/api"
	"cloak/show"
	"cloak/ticket"
)

// shows returns the error of Fits for one ticket. If there is none, it makes the record, and checks that it is accepted with the ticket's number; otherwise, that a record with a right proof would not be accepted.
func (w *world) shows(t *testing.T, x api.Task, h api.Held) api.Errno {
	t.Helper()
	held := []api.Held{h}
	e := show.Fits(w.s, x, held)
	if e == api.OK {
		r, points, e := show.Show(w.s, x, held, w.coins(x, held))
		n, _, f := show.Open(w.s, r.Commits[len(r.Commits)-1], r.Escrow, points)
		if e != api.OK || show.Check(w.s, x, r) != api.OK || f != api.OK || n != h.Attrs[0] {
			t.Error(w.s, x, h, e, n)
		}
	}
	if e == api.ErrArg {
		r, _, _ := w.showOf(x, held, w.coins(x, held))
		if f := show.Check(w.s, x, r); f != api.ErrCheck {
			t.Error(w.s, x, h, f)
		}
	}
	return e
}

// P6.2, P6.6, P6.20: tickets with a link, without it, and of whom.
func TestLend(t *testing.T) {
	for _, w := range []*world{middle(), wide(), large()} {
		x := w.task("id.age >= 6")
		x.Passes[0].Guests = []int{w.key(8), w.key(3)}
		none := x
		none.Passes = []api.Pass{x.Passes[0]}
		none.Passes[0].Guests = nil
		n := len(w.s.Bases) - 2
		attrs := func(number, age int) []int { return append([]int{number, age}, make([]int, n-1)...) }
		lender, guest, third, stranger, fellow := w.held(6, attrs(7, 2)...), w.held(8, attrs(1, 6)...), w.held(3, attrs(2, 7)...), w.held(5, attrs(1, 6)...), w.held(6, attrs(3, 8)...)
		young, revoked := w.held(8, attrs(1, 5)...), w.held(8, attrs(9, 6)...)
		for i, y := range []struct {
			task api.Task
			held api.Held
			want api.Errno
		}{
			{x, w.lend(lender, guest, "a day"), api.OK}, {x, w.lend(lender, guest, ""), api.OK}, {x, w.lend(lender, guest, string(make([]byte, 8000))), api.OK}, {x, w.lend(lender, third, "a day"), api.OK}, {x, w.lend(lender, fellow, "a day"), api.OK},
			{x, guest, api.ErrArg}, {x, third, api.ErrArg}, {x, stranger, api.ErrArg}, {x, fellow, api.OK}, {x, lender, api.ErrUnsat},
			{x, w.lend(lender, stranger, "a day"), api.ErrArg}, {none, w.lend(lender, guest, "a day"), api.ErrArg}, {none, w.lend(lender, fellow, "a day"), api.OK}, {none, fellow, api.OK},
			// What a guest has lent is not accepted; what a guest has borrowed and lent again, is.
			{x, w.lend(guest, fellow, "a day"), api.ErrArg}, {x, w.lend(guest, third, "a day"), api.ErrArg}, {x, w.lend(stranger, fellow, "a day"), api.ErrArg},
			{x, w.lend(w.lend(lender, guest, "a day"), third, "an hour"), api.OK}, {x, w.lend(w.lend(lender, guest, "a day"), fellow, "an hour"), api.OK}, {x, w.lend(w.lend(lender, stranger, "a day"), fellow, "an hour"), api.ErrArg},
			// The attributes and the number are those of the last ticket.
			{x, w.lend(fellow, lender, "a day"), api.ErrUnsat}, {x, w.lend(fellow, young, "a day"), api.ErrUnsat}, {x, w.lend(lender, revoked, "a day"), api.ErrRevoked}, {x, w.lend(w.held(6, attrs(9, 0)...), guest, "a day"), api.OK},
		} {
			if e := w.shows(t, y.task, y.held); e != y.want {
				t.Error(w.s, i, e)
			}
		}
		// The terms are part of the challenge for which the ticket was spent, and are not too long.
		for _, terms := range []string{"", "two days", "a day "} {
			y := w.lend(lender, guest, "a day")
			y.Links[0].Terms = terms
			if ticket.LendDare(w.s, guest.Ticket, terms) == ticket.LendDare(w.s, guest.Ticket, "a day") {
				continue
			}
			if e := w.shows(t, x, y); e != api.ErrArg {
				t.Error(w.s, terms, e)
			}
		}
		if e := w.shows(t, x, w.lend(lender, guest, string(make([]byte, 8001)))); e != api.ErrArg {
			t.Error(w.s, e)
		}
		// The link of another ticket of the same guest does not do.
		other := guest
		other.Links = w.lend(lender, w.held(8, attrs(1, 6)...), "a day").Links
		if e := w.shows(t, x, other); e != api.ErrArg && ticket.LendDare(w.s, guest.Ticket, "a day") != other.Links[0].Spend.Dare {
			t.Error(w.s, e)
		}
	}
}

// P6.20: up to four steps of lending, none of which can be left out.
func TestLendSteps(t *testing.T) {
	w := large()
	x := w.task("id.age >= 6")
	x.Passes[0].Guests = []int{w.key(8)}
	for _, secrets := range [][]int{{8, 8, 8, 8, 8, 8}, {6, 8, 6, 8, 6, 8}, {8, 6, 8, 6, 8, 6}} {
		h := w.held(6, 7, 2, 0, 0)
		for i, secret := range secrets {
			steps := i + 1
			h = w.lend(h, w.held(secret, 11+steps, 6, 1, 2), fmt.Sprint("step ", steps))
			want := api.OK
			if steps > 4 {
				want = api.ErrArg
			}
			if e := w.shows(t, x, h); e != want || len(h.Links) != steps {
				t.Error(secrets, steps, e)
			}
			for k := range h.Links {
				y := h
				y.Links = slices.Delete(slices.Clone(h.Links), k, k+1)
				// Without its first link, the chain begins with the ticket that was borrowed first: that may be one of the pass.
				want := api.ErrArg
				if k == 0 && secrets[0] == 6 && steps <= 5 {
					want = api.OK
				}
				if e := w.shows(t, x, y); e != want {
					t.Error(secrets, steps, k, e)
				}
			}
		}
	}
}

// P6.2: the first ticket has to be one of the pass, also if the keys of the guests would do.
func TestFirstTicket(t *testing.T) {
	w := large()
	x := w.task("id.age >= 6")
	x.Passes = append(x.Passes, api.Pass{Name: "job", Pub: w.key(8), Guests: []int{w.key(6)}})
	x.Passes[0].Guests = []int{w.key(8)}
	a, b := w.held(6, 7, 6, 0, 0), w.held(8, 7, 6, 0, 0)
	for i, y := range []struct {
		held []api.Held
		want api.Errno
	}{
		{[]api.Held{a, b}, api.OK}, {[]api.Held{b, a}, api.ErrArg}, {[]api.Held{w.lend(a, b, "x"), w.lend(b, a, "x")}, api.OK}, {[]api.Held{w.lend(b, a, "x"), w.lend(a, b, "x")}, api.ErrArg},
		{[]api.Held{w.lend(a, b, "x"), b}, api.ErrTwice}, {[]api.Held{a, w.lend(b, a, "x")}, api.ErrTwice}, {[]api.Held{w.lend(a, b, "x"), w.lend(b, w.held(6, 8, 1, 2, 3), "x")}, api.ErrOwner},
	} {
		if e := show.Fits(w.s, x, y.held); e != y.want {
			t.Error(i, e)
		}
	}
}
