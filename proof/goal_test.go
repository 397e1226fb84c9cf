package proof_test

import (
	"math"
	"math/rand/v2"
	"slices"
	"strings"
	"testing"

	"cloak/api"
	"cloak/base"
	"cloak/field"
	"cloak/proof"
)

// opening returns the claim that an element is a commitment.
func opening(s api.Setup, c int) api.Claim {
	return api.Claim{Vars: 2, Eqs: []api.Eq{{Target: c, Terms: []api.Term{{Var: 0, Base: s.Group.G}, {Var: 1, Base: s.Blind}}}}}
}

// one returns a goal of one clause.
func one(need int, claims ...api.Claim) []api.Clause {
	return []api.Clause{{Need: need, Claims: claims}}
}

// target returns the product of terms.
func target(g api.Group, terms []api.Term, values []int) int {
	r := 1
	for _, t := range terms {
		r = field.Times(g, r, power(g, t.Base, values[t.Var]))
	}
	return r
}

// randomClaim returns a claim with at most 3 variables and 3 equations of at most 3 terms, and values for which it holds.
func randomClaim(r *rand.Rand, s api.Setup) (api.Claim, []int) {
	bases := append(slices.Clone(s.Bases), s.Group.G, s.Blind)
	claim := api.Claim{Vars: r.IntN(4)}
	values := make([]int, claim.Vars)
	for i := range values {
		values[i] = r.IntN(s.Group.Q)
	}
	for range 1 + r.IntN(3) {
		var terms []api.Term
		if claim.Vars > 0 {
			for range r.IntN(4) {
				terms = append(terms, api.Term{Var: r.IntN(claim.Vars), Base: bases[r.IntN(len(bases))]})
			}
		}
		claim.Eqs = append(claim.Eqs, api.Eq{Target: target(s.Group, terms, values), Terms: terms})
	}
	return claim, values
}

// changed returns a copy of a claim with a change.
func changed(c api.Claim, change func(c *api.Claim)) api.Claim {
	c.Eqs = slices.Clone(c.Eqs)
	for i, eq := range c.Eqs {
		c.Eqs[i].Terms = slices.Clone(eq.Terms)
	}
	change(&c)
	return c
}

// badClaims returns claims that are not valid, each with a single fault.
func badClaims(s api.Setup) []api.Claim {
	good := opening(s, s.Blind)
	var l []api.Claim
	for _, vars := range []int{math.MinInt, -1, 0, 1, 121, math.MaxInt} {
		l = append(l, changed(good, func(c *api.Claim) { c.Vars = vars }))
	}
	l = append(l, changed(good, func(c *api.Claim) { c.Eqs = nil }))
	l = append(l, changed(good, func(c *api.Claim) { c.Eqs = slices.Repeat(c.Eqs, 61) }))
	l = append(l, changed(good, func(c *api.Claim) { c.Eqs[0].Terms = slices.Repeat(c.Eqs[0].Terms[:1], 81) }))
	for _, v := range []int{math.MinInt, -1, 2, 120, math.MaxInt} {
		l = append(l, changed(good, func(c *api.Claim) { c.Eqs[0].Terms[1].Var = v }))
	}
	for _, x := range []int{math.MinInt, s.Blind - s.Group.P, -1, 0, s.Group.P - 1, s.Group.P, s.Group.P + 1, s.Group.P + s.Blind, math.MaxInt} {
		l = append(l, changed(good, func(c *api.Claim) { c.Eqs[0].Target = x }))
		l = append(l, changed(good, func(c *api.Claim) { c.Eqs[0].Terms[1].Base = x }))
		l = append(l, changed(good, func(c *api.Claim) { c.Eqs = append(c.Eqs, api.Eq{Target: x}) }))
	}
	return l
}

// goodClaims returns claims that are valid, some of them at a limit.
func goodClaims(s api.Setup) []api.Claim {
	good := opening(s, s.Blind)
	return []api.Claim{
		good,
		{Eqs: []api.Eq{{Target: 1}}},
		{Eqs: []api.Eq{{Target: s.Blind}}},
		{Vars: 120, Eqs: []api.Eq{{Target: s.Blind}}},
		changed(good, func(c *api.Claim) { c.Vars = 120; c.Eqs[0].Terms[0].Var = 119 }),
		changed(good, func(c *api.Claim) { c.Eqs = slices.Repeat(c.Eqs, 60) }),
		changed(good, func(c *api.Claim) { c.Eqs[0].Terms = slices.Repeat(c.Eqs[0].Terms[:1], 80) }),
		changed(good, func(c *api.Claim) { c.Eqs[0].Terms[0].Base = 1 }),
	}
}

// P3.3
func TestValidGoal(t *testing.T) {
	for _, s := range setups {
		c := opening(s, s.Blind)
		for i, x := range []struct {
			goal []api.Clause
			want bool
		}{
			{nil, false},
			{one(1, c), true},
			{one(1), false},
			{one(0), false},
			{one(0, c), false},
			{one(-1, c), false},
			{one(2, c), false},
			{one(math.MinInt, c), false},
			{one(math.MaxInt, c), false},
			{one(2, c, c), true},
			{one(3, c, c, c), true},
			{slices.Repeat(one(1, c), 300), true},
			{slices.Repeat(one(1, c), 301), false},
			{slices.Concat(one(1, c), one(3, c, c)), false},
			{slices.Concat(one(1, c), one(1), one(1, c)), false},
		} {
			if got := proof.ValidGoal(s, x.goal); got != x.want {
				t.Error(s, i, got)
			}
		}
		for n := range 19 {
			goal := one(1, slices.Repeat([]api.Claim{c}, n)...)
			if got, want := proof.ValidGoal(s, goal), n >= 1 && n <= 16 && n < s.Group.Q; got != want {
				t.Error(s, n, got)
			}
		}
		for i, good := range goodClaims(s) {
			if !proof.ValidGoal(s, one(1, good)) || !proof.ValidGoal(s, slices.Concat(one(1, c), one(1, c, good))) {
				t.Error(s, i)
			}
		}
		for i, bad := range badClaims(s) {
			for _, goal := range [][]api.Clause{one(1, bad), one(1, bad, c), one(1, c, bad), slices.Concat(one(1, bad), one(1, c)), slices.Concat(one(1, c), one(1, c, bad))} {
				if proof.ValidGoal(s, goal) {
					t.Error(s, i)
				}
			}
		}
	}
	for _, s := range notSetups {
		if proof.ValidGoal(s, one(1, opening(small, 12))) || proof.ValidGoal(s, one(1, api.Claim{Eqs: []api.Eq{{Target: 1}}})) {
			t.Error(s)
		}
	}
}

// P3.3: bases and targets are elements, by the definition.
func TestElementsOfGoals(t *testing.T) {
	g := small.Group
	for x := -2 * g.P; x < 2*g.P; x++ {
		want := slices.Contains(elementsOf(g), x)
		if got := proof.ValidGoal(small, one(1, api.Claim{Eqs: []api.Eq{{Target: x}}})); got != want {
			t.Error("target", x, got)
		}
		if got := proof.ValidGoal(small, one(1, api.Claim{Vars: 1, Eqs: []api.Eq{{Target: 1, Terms: []api.Term{{Base: x}}}}})); got != want {
			t.Error("base", x, got)
		}
	}
}

// P3.3
func TestHolds(t *testing.T) {
	for _, x := range []struct {
		values []int
		want   bool
	}{{[]int{3, 2}, true}, {[]int{2, 0}, true}, {[]int{2, 1}, false}, {nil, false}, {[]int{2}, false}, {[]int{2, 0, 0}, false}, {[]int{13, 0}, false}, {[]int{2, 11}, false}, {[]int{-9, 0}, false}, {[]int{3, -9}, false}} {
		if proof.Holds(small, opening(small, 16), x.values) != x.want {
			t.Error(x)
		}
	}
	for _, s := range []api.Setup{tiny, small, odd} {
		for _, v := range tuples(s.Group.Q, 2) {
			for _, c := range elementsOf(s.Group) {
				if got, want := proof.Holds(s, opening(s, c), v), c == proof.Commit(s, v[0], v[1]); got != want {
					t.Error(s, v, c, got)
				}
			}
		}
	}
	for _, s := range setups {
		for i, bad := range badClaims(s) {
			for _, values := range [][]int{nil, {0, 1}, make([]int, 121)} {
				if proof.Holds(s, bad, values) {
					t.Error(s, i)
				}
			}
		}
	}
	for _, s := range notSetups {
		if proof.Holds(s, api.Claim{Eqs: []api.Eq{{Target: 1}}}, nil) || proof.Holds(s, opening(small, 16), []int{3, 2}) {
			t.Error(s)
		}
	}
}

// P3.3: a claim holds if all of its equations do, each of them for the same values.
func TestHoldsForAllEquations(t *testing.T) {
	r := random()
	for range 300 {
		for _, s := range setups {
			claim, values := randomClaim(r, s)
			if !proof.Holds(s, claim, values) {
				t.Fatal(s, claim, values)
			}
			i := r.IntN(len(claim.Eqs))
			if wrong := changed(claim, func(c *api.Claim) { c.Eqs[i].Target = field.Times(s.Group, c.Eqs[i].Target, s.Blind) }); proof.Holds(s, wrong, values) {
				t.Fatal(s, wrong, values)
			}
		}
	}
	for _, target := range []int{1, 4} {
		if got := proof.Holds(small, api.Claim{Eqs: []api.Eq{{Target: target}}}, nil); got != (target == 1) {
			t.Error(target, got)
		}
		if got := proof.Holds(small, api.Claim{Vars: 1, Eqs: []api.Eq{{Target: target}}}, []int{7}); got != (target == 1) {
			t.Error(target, got)
		}
	}
}

// readGoal returns the goal whose text is s.
func readGoal(t *testing.T, s string) []api.Clause {
	r := base.OpenReader(s)
	l := r.Nums()
	if !r.Done() {
		t.Fatal(s)
	}
	next := func() int {
		n := l[0]
		l = l[1:]
		return n
	}
	var goal []api.Clause
	for range next() {
		clause := api.Clause{Need: next()}
		for range next() {
			claim := api.Claim{Vars: next()}
			for range next() {
				eq := api.Eq{Target: next()}
				for range next() {
					eq.Terms = append(eq.Terms, api.Term{Var: next(), Base: next()})
				}
				claim.Eqs = append(claim.Eqs, eq)
			}
			clause.Claims = append(clause.Claims, claim)
		}
		goal = append(goal, clause)
	}
	if len(l) > 0 {
		t.Fatal(s)
	}
	return goal
}

// equalGoals compares goals, where an empty slice may be nil or not.
func equalGoals(a, b []api.Clause) bool {
	return slices.EqualFunc(a, b, func(a, b api.Clause) bool {
		return a.Need == b.Need && slices.EqualFunc(a.Claims, b.Claims, func(a, b api.Claim) bool {
			return a.Vars == b.Vars && slices.EqualFunc(a.Eqs, b.Eqs, func(a, b api.Eq) bool {
				return a.Target == b.Target && slices.Equal(a.Terms, b.Terms)
			})
		})
	})
}

// P3.3
func TestText(t *testing.T) {
	empty := api.Claim{Eqs: []api.Eq{{Target: 1}}}
	for _, x := range []struct {
		goal []api.Clause
		want string
	}{
		{nil, "1[0;]"},
		{one(1, empty), "7[1;1;1;0;1;1;0;]"},
		{one(2, opening(small, 16), empty), "15[1;2;2;2;1;16;2;0;4;1;12;0;1;1;0;]"},
		{slices.Concat(one(1, empty), one(1, opening(small, 16))), "17[2;1;1;0;1;1;0;1;1;2;1;16;2;0;4;1;12;]"},
		{one(0), "3[1;0;0;]"},
		{slices.Concat(one(-3), one(4, api.Claim{Vars: -1})), "7[2;-3;0;4;1;-1;0;]"},
		{one(1, api.Claim{Vars: 1, Eqs: []api.Eq{{Target: math.MinInt, Terms: []api.Term{{Var: -5, Base: -6}}}}}), "9[1;1;1;1;1;-9223372036854775808;1;-5;-6;]"},
	} {
		if got := proof.Text(x.goal); got != x.want {
			t.Error(got, x.want)
		}
	}
}

// P3.20: a goal and its text determine each other.
func TestTextIsInjective(t *testing.T) {
	r := random()
	for range 500 {
		var goal []api.Clause
		for range r.IntN(4) {
			clause := api.Clause{Need: r.IntN(9) - 4}
			for range r.IntN(4) {
				claim, _ := randomClaim(r, small)
				claim.Vars += r.IntN(3) - 1
				clause.Claims = append(clause.Claims, claim)
			}
			goal = append(goal, clause)
		}
		s := proof.Text(goal)
		if read := readGoal(t, s); !equalGoals(read, goal) || proof.Text(read) != s {
			t.Fatal(goal, s, read)
		}
	}
	if s := proof.Text(slices.Repeat(one(1, opening(large, large.Blind)), 1000)); !strings.HasPrefix(s, "10001[1000;1;1;2;1;") {
		t.Error(s[:30])
	}
}

// P3.17: the number of values for which a claim holds is 0, or Q to the power of Vars minus the rank.
func TestSolutionsOfClaims(t *testing.T) {
	r := random()
	g := tiny.Group
	log := func(x int) int { return slices.Index(elementsOf(g), x) }
	for range 300 {
		claim, values := randomClaim(r, tiny)
		if i := r.IntN(len(claim.Eqs)); r.IntN(2) == 0 {
			claim.Eqs[i].Target = elementsOf(g)[r.IntN(g.Q)]
		}
		rows, logs := make([][]int, len(claim.Eqs)), make([]int, len(claim.Eqs))
		for i, eq := range claim.Eqs {
			rows[i] = make([]int, claim.Vars)
			for _, term := range eq.Terms {
				rows[i][term.Var] += log(term.Base)
			}
			logs[i] = log(eq.Target)
		}
		want := 0
		if _, ok := field.Solve(g.Q, rows, logs); ok {
			want = field.Pow(1000000, g.Q, claim.Vars-field.Rank(g.Q, rows))
		}
		found := 0
		for _, v := range tuples(g.Q, claim.Vars) {
			if proof.Holds(tiny, claim, v) {
				found++
			}
		}
		if found != want {
			t.Error(claim, values, found, want)
		}
	}
}
