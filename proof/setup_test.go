package proof_test

import (
	"math"
	"math/big"
	"math/rand/v2"
	"slices"
	"testing"

	"cloak/api"
	"cloak/field"
	"cloak/proof"
)

// tinyMirror and tiny are a setup in which everything can be listed.
var tinyMirror = api.Mirror{Bases: []int{1, 2}, Blind: 3}
var tiny = api.Setup{Group: api.Group{P: 11, Q: 5, G: 4}, Bases: []int{4, 5}, Blind: 9}

// smallMirror and small are the setup of the document's examples.
var smallMirror = api.Mirror{Bases: []int{2, 3}, Blind: 5}
var small = api.Setup{Group: api.Group{P: 23, Q: 11, G: 4}, Bases: []int{16, 18}, Blind: 12}

// largeMirror and large are a setup in the greatest group with the generator 4. No two hashes happen to be equal there.
var largeMirror = api.Mirror{Bases: []int{100000000000000007, 150094635296999121}, Blind: 298023223876953125}
var large = api.Setup{
	Group: api.Group{P: 2305843009213691579, Q: 1152921504606845789, G: 4},
	Bases: []int{1316086255203816748, 1400493534638815237}, Blind: 761017435413067610,
}

// odd is a setup whose generator is not 4, and two of whose bases are equal.
var odd = api.Setup{Group: api.Group{P: 23, Q: 11, G: 9}, Bases: []int{2, 2, 9, 18, 3, 4, 6}, Blind: 9}

var setups = []api.Setup{tiny, small, large, odd}

// notSetups are not valid.
var notSetups = []api.Setup{
	{},
	{Group: small.Group},
	{Bases: small.Bases, Blind: 12},
	{Group: api.Group{P: 27, Q: 13, G: 4}, Bases: []int{16, 18}, Blind: 12},
	{Group: api.Group{P: 23, Q: 11, G: 5}, Bases: []int{16, 18}, Blind: 12},
	{Group: api.Group{P: 23, Q: 11, G: 1}, Bases: []int{16, 18}, Blind: 12},
	{Group: api.Group{P: 7, Q: 3, G: 4}, Bases: []int{2, 4}, Blind: 4},
	{Group: api.Group{P: -1, Q: math.MaxInt, G: 4}, Bases: []int{2, 4}, Blind: 4},
	{Group: small.Group, Bases: nil, Blind: 12},
	{Group: small.Group, Bases: []int{16}, Blind: 12},
	{Group: small.Group, Bases: slices.Repeat([]int{16}, 8), Blind: 12},
	{Group: small.Group, Bases: []int{1, 18}, Blind: 12},
	{Group: small.Group, Bases: []int{16, 1}, Blind: 12},
	{Group: small.Group, Bases: []int{16, 18, 0}, Blind: 12},
	{Group: small.Group, Bases: []int{16, 18, 5}, Blind: 12},
	{Group: small.Group, Bases: []int{16, 18, -7}, Blind: 12},
	{Group: small.Group, Bases: []int{16, 41}, Blind: 12},
	{Group: small.Group, Bases: []int{16, math.MinInt}, Blind: 12},
	{Group: small.Group, Bases: []int{16, 18}, Blind: 0},
	{Group: small.Group, Bases: []int{16, 18}, Blind: 1},
	{Group: small.Group, Bases: []int{16, 18}, Blind: 5},
	{Group: small.Group, Bases: []int{16, 18}, Blind: -11},
	{Group: small.Group, Bases: []int{16, 18}, Blind: 35},
	{Group: small.Group, Bases: []int{16, 18}, Blind: math.MaxInt},
}

// ints are numbers at which calculations overflow if they are not done in the integers, and others.
var ints = []int{math.MinInt, math.MinInt + 1, -1 << 62, -1 << 60, -23, -12, -11, -9, -1, 0, 1, 2, 3, 5, 10, 11, 12, 22, 23, 1<<60 - 1, 1 << 60, 1<<61 - 1, 1 << 62, math.MaxInt}

// random returns a source of numbers that are the same in each run.
func random() *rand.Rand { return rand.New(rand.NewPCG(3, 4)) }

// power returns x to the power of the residue of k modulo Q, calculated with integers of any size.
func power(g api.Group, x, k int) int {
	e := new(big.Int).Mod(big.NewInt(int64(k)), big.NewInt(int64(g.Q)))
	return int(new(big.Int).Exp(big.NewInt(int64(x)), e, big.NewInt(int64(g.P))).Int64())
}

// elementsOf returns the powers of G with the exponents 0 to Q - 1.
func elementsOf(g api.Group) []int {
	l := []int{1}
	for len(l) < g.Q {
		l = append(l, l[len(l)-1]*g.G%g.P)
	}
	return l
}

// tuples returns all lists of n numbers from 0 to q - 1.
func tuples(q, n int) [][]int {
	l := [][]int{nil}
	for range n {
		var next [][]int
		for _, t := range l {
			for x := range q {
				next = append(next, append(slices.Clone(t), x))
			}
		}
		l = next
	}
	return l
}

func equalSetups(a, b api.Setup) bool {
	return a.Group == b.Group && slices.Equal(a.Bases, b.Bases) && a.Blind == b.Blind
}

// P3.1
func TestMake(t *testing.T) {
	for _, x := range []struct {
		setup  api.Setup
		mirror api.Mirror
	}{{tiny, tinyMirror}, {small, smallMirror}, {large, largeMirror}, {odd, api.Mirror{Bases: []int{9, 9, 1, 10, 6, 7, 4}, Blind: 1}}} {
		if s, ok := proof.Make(x.setup.Group, x.mirror); !ok || !equalSetups(s, x.setup) {
			t.Error(x, s, ok)
		}
	}
	for _, x := range []struct {
		group  api.Group
		mirror api.Mirror
	}{
		{api.Group{}, smallMirror},
		{api.Group{P: 27, Q: 13, G: 4}, smallMirror},
		{api.Group{P: 23, Q: 11, G: 5}, smallMirror},
		{small.Group, api.Mirror{}},
		{small.Group, api.Mirror{Blind: 5}},
		{small.Group, api.Mirror{Bases: []int{2}, Blind: 5}},
		{small.Group, api.Mirror{Bases: slices.Repeat([]int{2}, 8), Blind: 5}},
		{small.Group, api.Mirror{Bases: []int{0, 3}, Blind: 5}},
		{small.Group, api.Mirror{Bases: []int{2, 11}, Blind: 5}},
		{small.Group, api.Mirror{Bases: []int{2, 3, -1}, Blind: 5}},
		{small.Group, api.Mirror{Bases: []int{2, 3, 14}, Blind: 5}},
		{small.Group, api.Mirror{Bases: []int{2, 3}, Blind: 0}},
		{small.Group, api.Mirror{Bases: []int{2, 3}, Blind: 11}},
		{small.Group, api.Mirror{Bases: []int{2, 3}, Blind: -6}},
		{small.Group, api.Mirror{Bases: []int{2, 3}, Blind: math.MinInt}},
		{large.Group, api.Mirror{Bases: []int{2, 3}, Blind: large.Group.Q}},
	} {
		if s, ok := proof.Make(x.group, x.mirror); ok || !equalSetups(s, api.Setup{}) {
			t.Error(x, s, ok)
		}
	}
	top := api.Mirror{Bases: []int{large.Group.Q - 1, 1}, Blind: large.Group.Q - 1}
	if s, ok := proof.Make(large.Group, top); !ok || s.Bases[1] != 4 || s.Blind != s.Bases[0] || field.Times(large.Group, s.Blind, 4) != 1 {
		t.Error(s, ok)
	}
}

// P3.1
func TestValidSetup(t *testing.T) {
	for _, s := range setups {
		if !proof.ValidSetup(s) {
			t.Error(s)
		}
	}
	for _, s := range notSetups {
		if proof.ValidSetup(s) {
			t.Error(s)
		}
	}
	for n := range 10 {
		s := api.Setup{Group: large.Group, Bases: slices.Repeat([]int{large.Blind}, n), Blind: large.Blind}
		if got, want := proof.ValidSetup(s), n >= 2 && n <= 7; got != want {
			t.Error(n, got)
		}
	}
}

// P3.1: by the definition, for all setups and mirrors that are small enough.
func TestMirrors(t *testing.T) {
	g := tiny.Group
	inRange := func(m []int) bool { return slices.Min(m) >= 1 && slices.Max(m) < g.Q }
	for _, b := range tuples(g.P+2, 3) {
		s := api.Setup{Group: g, Bases: b[:2], Blind: b[2]}
		for _, m := range tuples(g.Q+2, 3) {
			want := inRange(m) && b[0] == power(g, 4, m[0]) && b[1] == power(g, 4, m[1]) && b[2] == power(g, 4, m[2])
			if got := proof.Mirrors(s, api.Mirror{Bases: m[:2], Blind: m[2]}); got != want {
				t.Fatal(s, m, got)
			}
		}
	}
	if !proof.Mirrors(large, largeMirror) || !proof.Mirrors(small, smallMirror) {
		t.Error("mirrors")
	}
	for _, s := range notSetups {
		for _, m := range []api.Mirror{{}, smallMirror, {Bases: s.Bases, Blind: s.Blind}, {Bases: []int{2}, Blind: 5}, {Bases: slices.Repeat([]int{2}, 8), Blind: 5}, {Bases: []int{0, 3}, Blind: 5}} {
			if proof.Mirrors(s, m) {
				t.Error(s, m)
			}
		}
	}
	for _, m := range []api.Mirror{
		{}, {Bases: []int{2}, Blind: 5}, {Bases: []int{2, 3, 4}, Blind: 5}, {Bases: []int{3, 2}, Blind: 5}, {Bases: []int{2, 3}, Blind: 4},
		{Bases: []int{13, 3}, Blind: 5}, {Bases: []int{2, -8}, Blind: 5}, {Bases: []int{2, 3}, Blind: 16}, {Bases: []int{2, 3}, Blind: -6},
	} {
		if proof.Mirrors(small, m) {
			t.Error(m)
		}
	}
}

// P3.2
func TestCommit(t *testing.T) {
	for _, x := range []struct{ v, r, want int }{{3, 2, 16}, {14, -9, 16}, {0, 0, 1}, {1, 0, 4}, {0, 1, 12}, {11, -11, 1}} {
		if got := proof.Commit(small, x.v, x.r); got != x.want {
			t.Error(x, got)
		}
	}
	for _, s := range setups {
		for _, v := range ints {
			for _, r := range ints {
				want := field.Times(s.Group, power(s.Group, s.Group.G, v), power(s.Group, s.Blind, r))
				if got := proof.Commit(s, v, r); got != want {
					t.Error(s, v, r, got, want)
				}
			}
		}
	}
	for _, s := range notSetups {
		if got := proof.Commit(s, 3, 2); got != 0 {
			t.Error(s, got)
		}
	}
}

// P3.16: each element is a commitment to each number, by exactly one blind.
func TestHiding(t *testing.T) {
	for _, s := range []api.Setup{tiny, small, odd} {
		for v := range s.Group.Q {
			var reached []int
			for r := range s.Group.Q {
				reached = append(reached, proof.Commit(s, v, r))
			}
			slices.Sort(reached)
			all := elementsOf(s.Group)
			slices.Sort(all)
			if !slices.Equal(reached, all) {
				t.Error(s, v, reached)
			}
		}
	}
}

// P3.16
func TestHomomorphism(t *testing.T) {
	for _, s := range setups {
		for _, a := range ints {
			for _, b := range ints {
				q := s.Group.Q
				c := field.Times(s.Group, proof.Commit(s, a, b), proof.Commit(s, b, 7))
				if c != proof.Commit(s, field.Add(q, a, b), field.Add(q, b, 7)) {
					t.Error(s, a, b)
				}
			}
		}
	}
}

// P3.16: two different ways to open a commitment reveal the exponent of Blind.
func TestBinding(t *testing.T) {
	q := small.Group.Q
	for _, x := range tuples(q, 4) {
		if proof.Commit(small, x[0], x[1]) != proof.Commit(small, x[2], x[3]) || slices.Equal(x[:2], x[2:]) {
			continue
		}
		if e := field.Mul(q, field.Sub(q, x[0], x[2]), field.Pow(q, field.Sub(q, x[3], x[1]), -1)); e != smallMirror.Blind {
			t.Error(x, e)
		}
	}
}
