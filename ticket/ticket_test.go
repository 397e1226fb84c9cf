package ticket_test

import (
	"math"
	"strings"
	"testing"

	"cloak/api"
	"cloak/ticket"
)

// tickets calls f with all well-formed tickets of tiny that have the given First, and with the exponents z, a and b of Z = Mark^z, A = G^a and B = Mark^b.
func tickets(first int, f func(t api.Ticket, z, a, b int)) {
	g := tiny.Group
	for _, x := range tuples(5, 5) {
		if mark := power(g, 4, x[0]); mark != 1 {
			f(api.Ticket{Mark: mark, First: first, Z: power(g, mark, x[1]), A: power(g, 4, x[2]), B: power(g, mark, x[3]), R: x[4]}, x[1], x[2], x[3])
		}
	}
}

// P4.5, P4.16: all well-formed tickets of tiny with all keys; the key of the exponent 0 is none.
func TestSoundness(t *testing.T) {
	g := tiny.Group
	valid := 0
	for _, first := range []int{1, 5, 9} {
		tickets(first, func(y api.Ticket, z, a, b int) {
			c := innerOf(tiny, y)
			if !ticket.Formed(tiny, y) || ticket.Inner(tiny, y) != c {
				t.Error(y)
			}
			for x := range 5 {
				want := x != 0 && c != 0 && y.R == (c*x+a)%5 && (c*(5+x-z)+5+a-b)%5 == 0
				if got := ticket.Valid(tiny, power(g, 4, x), y); got != want {
					t.Error(x, y, got)
				}
				if want {
					valid++
				}
			}
		})
	}
	if valid < 500 {
		t.Error(valid)
	}
}

// P4.16: tickets with another Z than Mark^x are not valid, unless their maker has guessed the inner challenge.
func TestOtherZ(t *testing.T) {
	g, x, z := large.Group, 5, 7
	for i := range 20 {
		mark := power(g, 4, 3+i)
		y := api.Ticket{Mark: mark, First: 4, Z: power(g, mark, z), A: power(g, 4, 11), B: power(g, mark, 13)}
		c := innerOf(large, y)
		y.R = (residue(g.Q, c, x) + 11) % g.Q
		if ticket.Inner(large, y) != c || ticket.Valid(large, power(g, 4, x), y) || ticket.Valid(large, power(g, 4, z), y) {
			t.Error(y)
		}
	}
}

// P4.5: tickets that are not well formed, some of which have the residues of those that are valid.
func TestNotFormed(t *testing.T) {
	r := random()
	for _, s := range setups {
		p := anyPair(r, s)
		x := issue(t, r, s, p).ticket
		if !ticket.Formed(s, x) || ticket.Inner(s, x) != innerOf(s, x) || !ticket.Valid(s, p.key, x) {
			t.Error(s, x)
		}
		var bad []api.Ticket
		for _, field := range []func(y *api.Ticket) *int{
			func(y *api.Ticket) *int { return &y.Mark },
			func(y *api.Ticket) *int { return &y.First },
			func(y *api.Ticket) *int { return &y.Z },
			func(y *api.Ticket) *int { return &y.A },
			func(y *api.Ticket) *int { return &y.B },
		} {
			for _, n := range append(notElements(s.Group), *field(&x)+s.Group.P, *field(&x)-s.Group.P, s.Group.P-*field(&x)) {
				y := x
				*field(&y) = n
				bad = append(bad, y)
			}
		}
		for _, n := range append(notNumbers(s.Group.Q), x.R+s.Group.Q, x.R-s.Group.Q) {
			y := x
			y.R = n
			bad = append(bad, y)
		}
		y := x
		y.Mark = 1
		for _, y := range append(bad, y, api.Ticket{}) {
			if ticket.Formed(s, y) || ticket.Inner(s, y) != 0 || ticket.Valid(s, p.key, y) {
				t.Error(s, y)
			}
		}
		for _, key := range append(notElements(s.Group), 1, p.key+s.Group.P, p.key-s.Group.P, s.Group.P-p.key) {
			if ticket.Valid(s, key, x) {
				t.Error(s, key, x)
			}
		}
	}
	y := api.Ticket{Mark: 8, First: 18, Z: 6, A: 2, B: 13, R: 10}
	for _, s := range notSetups {
		if ticket.Formed(s, y) || ticket.Inner(s, y) != 0 || ticket.Valid(s, 18, y) {
			t.Error(s)
		}
	}
}

// P4.5: all fields but Mark may be 1; tickets that need not be valid are well formed.
func TestFormedOnes(t *testing.T) {
	if y := (api.Ticket{Mark: 8, First: 1, Z: 1, A: 1, B: 1, R: 0}); !ticket.Formed(small, y) || ticket.Inner(small, y) != innerOf(small, y) {
		t.Error(y)
	}
	// The numbers were calculated by another program.
	y := api.Ticket{Mark: 8, First: 18, Z: 6, A: 2, B: 13, R: 10}
	if ticket.Inner(small, y) != 5 || !ticket.Valid(small, 18, y) || ticket.Valid(small, 6, y) {
		t.Error(ticket.Inner(small, y))
	}
	for n := range 11 {
		y.R = n
		if ticket.Valid(small, 18, y) != (n == 10) || ticket.Inner(small, y) != 5 {
			t.Error(n)
		}
	}
}

// P4.5: a valid ticket with another number in one place is not valid, as its hash is another one.
func TestChangedTicket(t *testing.T) {
	for _, x := range calculated {
		for i := range 6 {
			y := x.ticket
			g := large.Group
			switch i {
			case 0:
				y.Mark = residue(g.P, y.Mark, 4)
			case 1:
				y.First = residue(g.P, y.First, 4)
			case 2:
				y.Z = residue(g.P, y.Z, 4)
			case 3:
				y.A = residue(g.P, y.A, 4)
			case 4:
				y.B = residue(g.P, y.B, 4)
			case 5:
				y.R = (y.R + 1) % g.Q
			}
			if !ticket.Formed(large, y) || ticket.Valid(large, x.key, y) {
				t.Error(i, y)
			}
		}
	}
}

// P4.9
func TestEncode(t *testing.T) {
	if s := ticket.Encode(api.Ticket{Mark: 8, First: 18, Z: 9, A: 16, B: 13, R: 0}); s != "6[8;18;9;16;13;0;]" {
		t.Error(s)
	}
	if s := ticket.Encode(api.Ticket{}); s != "6[0;0;0;0;0;0;]" {
		t.Error(s)
	}
	if s := ticket.Encode(api.Ticket{Mark: -1, First: math.MinInt, Z: math.MaxInt, A: 1 << 60, B: -2, R: 7}); s != "6[-1;-9223372036854775808;9223372036854775807;1152921504606846976;-2;7;]" {
		t.Error(s)
	}
}

// P4.9, P4.18
func TestDecode(t *testing.T) {
	r := random()
	for range 300 {
		var l [6]int
		for i := range l {
			l[i] = int(r.Uint64()) >> r.IntN(64)
		}
		want := api.Ticket{Mark: l[0], First: l[1], Z: l[2], A: l[3], B: l[4], R: l[5]}
		text := list(l[:]...)
		if got, ok := ticket.Decode(text); got != want || !ok || ticket.Encode(want) != text {
			t.Error(text, got, ok)
		}
		// Texts that differ in one byte are other tickets, or none.
		at := r.IntN(len(text))
		for _, c := range []byte("0123456789;[]-+, x") {
			other := text[:at] + string(c) + text[at+1:]
			if got, ok := ticket.Decode(other); ok && ticket.Encode(got) != other || !ok && got != (api.Ticket{}) {
				t.Error(other, got, ok)
			}
		}
	}
	good := "6[8;18;9;16;13;0;]"
	bad := []string{
		"", " " + good, good + " ", good + good, good + "0;", "6[8;18;9;16;13;]", "5[8;18;9;16;13;]", "7[8;18;9;16;13;0;1;]", "0[]", "6[]", "06[8;18;9;16;13;0;]", "-6[8;18;9;16;13;0;]",
		"6[08;18;9;16;13;0;]", "6[+8;18;9;16;13;0;]", "6[-0;18;9;16;13;0;]", "6[9223372036854775808;18;9;16;13;0;]", "6[8;18;9;16;13;0]", "6[8;18;9;16;13;0;", "6[8;18;9;16;13;0,]", "6[a;18;9;16;13;0;]", "6[1:a,1:a,1:a,1:a,1:a,1:a,]",
		"99999999999999999999[8;]", "9223372036854775807[8;]", strings.Repeat("6[", 1000),
	}
	for i := range len(good) {
		bad = append(bad, good[:i])
	}
	for _, text := range bad {
		if got, ok := ticket.Decode(text); ok || got != (api.Ticket{}) {
			t.Error(text, got, ok)
		}
	}
}

// P1: no tickets lead to a panic.
func TestAnyTickets(t *testing.T) {
	for _, s := range append(notSetups, setups...) {
		for _, a := range ints {
			for _, b := range ints {
				for _, y := range []api.Ticket{{Mark: a, First: b, Z: a, A: b, B: a, R: b}, {Mark: 4, First: 9, Z: a, A: b, B: 1, R: 0}} {
					ticket.Formed(s, y)
					ticket.Inner(s, y)
					ticket.Valid(s, b, y)
					ticket.LendDare(s, y, "terms")
					for _, l := range [][]int{nil, {a}, {a, b}, {a, b, a}, {a, b, a, b, a, b, a, b}} {
						x := api.Spend{Dare: b, Answers: l}
						ticket.Accepts(s, y, x)
						ticket.Trace(s, y, x, api.Spend{Dare: a, Answers: l})
						ticket.Guilty(s, y, x, api.Spend{}, l)
						ticket.Follows(s, l, []api.Link{{Ticket: y, Spend: x}}, b)
					}
				}
			}
		}
	}
}
