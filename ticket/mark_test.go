package ticket_test

import (
	"slices"
	"testing"

	"cloak/api"
	"cloak/ticket"
)

// P4.1: the document's examples.
func TestMarkExamples(t *testing.T) {
	if ticket.Mark(small, []int{5, 7}) != 6 || ticket.Mark(small, []int{0, 7}) != 0 || ticket.Mark(small, []int{5, 0}) != 1 {
		t.Error("mark")
	}
	if !ticket.Usable(small, []int{5, 7}) || ticket.Usable(small, []int{5, 0}) || ticket.Usable(small, []int{0, 7}) {
		t.Error("usable")
	}
	if ticket.Public(small, 3) != 18 || ticket.Public(small, 0) != 0 {
		t.Error("public")
	}
}

// P4.1: all lists of two numbers, by the exponents of the mirror.
func TestMarkAll(t *testing.T) {
	powers := elementsOf(small.Group)
	for a := -12; a <= 23; a++ {
		for b := -12; b <= 23; b++ {
			want := 0
			if a >= 1 && a < 11 && b >= 0 && b < 11 {
				want = powers[(1+2*a+3*b)%11]
			}
			if got := ticket.Mark(small, []int{a, b}); got != want || ticket.Usable(small, []int{a, b}) != (want > 1) {
				t.Error(a, b, got)
			}
		}
	}
}

// P4.1: in all setups.
func TestMark(t *testing.T) {
	r := random()
	for _, s := range setups {
		for range 40 {
			attrs := anyAttrs(r, s)
			if got := ticket.Mark(s, attrs); got != product(s, ones(attrs)) || !ticket.Usable(s, attrs) {
				t.Error(s, attrs, got)
			}
			bad := [][]int{nil, {}, attrs[:len(attrs)-1], append(slices.Clone(attrs), 0), ones(attrs)}
			for i := range attrs {
				for _, x := range notNumbers(s.Group.Q) {
					l := slices.Clone(attrs)
					l[i] = x
					bad = append(bad, l)
				}
			}
			zero := slices.Clone(attrs)
			zero[0] = 0
			for _, l := range append(bad, zero) {
				if ticket.Mark(s, l) != 0 || ticket.Usable(s, l) {
					t.Error(s, l)
				}
			}
		}
	}
	// The mark of the last one is 1.
	if ticket.Mark(large, []int{1152921504606845788, 0}) != 752573783167777992 || ticket.Mark(tiny, []int{2}) != 1 || ticket.Usable(tiny, []int{2}) {
		t.Error("great and tiny")
	}
	for _, s := range notSetups {
		if ticket.Mark(s, []int{5, 7}) != 0 || ticket.Usable(s, []int{5, 7}) || ticket.Mark(s, []int{}) != 0 || ticket.Usable(s, nil) {
			t.Error(s)
		}
	}
}

// P4.1
func TestPublic(t *testing.T) {
	for _, s := range setups {
		q := s.Group.Q
		for _, x := range []int{1, 2, 3, q / 2, q - 2, q - 1} {
			if got := ticket.Public(s, x); got != power(s.Group, s.Group.G, x) {
				t.Error(s, x, got)
			}
		}
		for _, x := range append(notNumbers(q), 0) {
			if got := ticket.Public(s, x); got != 0 {
				t.Error(s, x, got)
			}
		}
	}
	for _, s := range notSetups {
		if ticket.Public(s, 3) != 0 {
			t.Error(s)
		}
	}
}

// P1: no numbers lead to a panic.
func TestAnyNumbers(t *testing.T) {
	for _, s := range slices.Concat(setups, notSetups) {
		for _, a := range ints {
			for _, l := range [][]int{nil, {a}, {a, a}, {5, a}, {1, 2, 3, 4, 5, a}, slices.Repeat([]int{a}, 100)} {
				ticket.Mark(s, l)
				ticket.Usable(s, l)
				ticket.Propose(s, a, l, 2)
				ticket.Propose(s, 3, l, a)
				ticket.Use(s, l, api.Blinding{S: 1, U: 1, Ys: l}, 1)
				ticket.Use(s, []int{5, 7}, api.Blinding{S: a, U: a, V: a, Ys: l}, a)
			}
			for _, b := range ints {
				ticket.Public(s, b)
				ticket.Grant(s, a, b, 3)
				ticket.Grant(s, 3, a, b)
			}
		}
	}
}
