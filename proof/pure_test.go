package proof_test

import (
	"math"
	"slices"
	"testing"

	"cloak/api"
	"cloak/field"
	"cloak/proof"
)

// arguments are one argument of each kind.
type arguments struct {
	setup         api.Setup
	mirror        api.Mirror
	goal          []api.Clause
	know          [][]api.Know
	noise         api.Noise
	proof         api.Proof
	values, other []int
	bits, blinds  []int
}

// sample returns arguments with which all functions succeed; they are new memory in each call.
func sample() arguments {
	x := arguments{
		setup:  api.Setup{Group: small.Group, Bases: []int{16, 18}, Blind: 12},
		mirror: api.Mirror{Bases: []int{2, 3}, Blind: 5},
		goal:   one(1, opening(small, 16), opening(small, 3)),
		know:   [][]api.Know{{known(3, 2), {}}},
		noise:  api.Noise{Nums: [][][]int{{{1, 2}, {3, 4}}}, Dares: [][]int{{0, 7}}},
		values: []int{4, 2}, other: []int{10, 6},
		bits: []int{12, 1}, blinds: []int{1, 2},
	}
	x.proof, _ = proof.Prove(x.setup, x.goal, "gate", x.know, x.noise)
	return x
}

// results are what functions return.
type results struct {
	setup                   api.Setup
	proof, decoded          api.Proof
	noise                   api.Noise
	simulated, values, bits []int
	know                    [][]api.Know
	bitGoal, rangeGoal      []api.Clause
}

// run calls all functions that return or take slices.
func run(t *testing.T, x arguments) results {
	t.Helper()
	var r results
	oks := make([]bool, 5)
	var e api.Errno
	r.setup, oks[0] = proof.Make(x.setup.Group, x.mirror)
	r.proof, e = proof.Prove(x.setup, x.goal, "gate", x.know, x.noise)
	r.noise, oks[1] = proof.Explain(x.setup, x.goal, "gate", x.proof, x.know)
	r.simulated = proof.Simulate(x.setup, x.goal[0].Claims[0], 1, x.values)
	r.values, oks[2] = proof.Extract(x.setup, x.goal[0].Claims[0], 1, x.values, 3, x.other)
	r.bitGoal = proof.Bits(x.setup, x.bits)
	r.rangeGoal = proof.Range(x.setup, 16, x.bits)
	r.bits, r.know, oks[3] = proof.Split(x.setup, 2, x.blinds)
	s, _ := proof.Encode(x.proof)
	r.decoded, oks[4] = proof.Decode(s)
	_, weighed := proof.Weigh(x.setup, x.bits)
	if slices.Contains(oks, false) || e != api.OK || !weighed || !proof.ValidSetup(x.setup) || !proof.Mirrors(x.setup, x.mirror) || !proof.ValidGoal(x.setup, x.goal) ||
		proof.Holds(x.setup, x.goal[0].Claims[0], x.values) || proof.Commit(x.setup, 3, 2) != 16 || proof.Text(x.goal) == "" || proof.Rest(x.setup, 3, x.blinds) != 9 || !proof.Verify(x.setup, x.goal, "gate", x.proof) {
		t.Fatal(r, oks, e, weighed)
	}
	return r
}

// listsOfArguments returns all lists of numbers in arguments.
func listsOfArguments(x *arguments) []*[]int {
	l := []*[]int{&x.setup.Bases, &x.mirror.Bases, &x.values, &x.other, &x.bits, &x.blinds}
	l = append(l, listsOf(x.noise.Dares, x.noise.Nums, x.know)...)
	return append(l, listsOf(x.proof.Dares, x.proof.Answers, nil)...)
}

// listsOfResults returns all lists of numbers in results.
func listsOfResults(r *results) []*[]int {
	l := []*[]int{&r.setup.Bases, &r.simulated, &r.values, &r.bits}
	l = append(l, listsOf(r.proof.Dares, r.proof.Answers, r.know)...)
	l = append(l, listsOf(r.decoded.Dares, r.decoded.Answers, nil)...)
	return append(l, listsOf(r.noise.Dares, r.noise.Nums, nil)...)
}

// listsOf returns all lists of numbers in a proof, noise or knowledge.
func listsOf(dares [][]int, nums [][][]int, know [][]api.Know) []*[]int {
	var l []*[]int
	for i := range dares {
		l = append(l, &dares[i])
	}
	for _, row := range nums {
		for k := range row {
			l = append(l, &row[k])
		}
	}
	for _, row := range know {
		for k := range row {
			l = append(l, &row[k].Values)
		}
	}
	return l
}

// termsOf returns the terms of all equations of a goal.
func termsOf(goal []api.Clause) []api.Term {
	var l []api.Term
	for _, clause := range goal {
		for _, claim := range clause.Claims {
			for _, eq := range claim.Eqs {
				l = append(l, eq.Terms...)
			}
		}
	}
	return l
}

// spoilGoal overwrites a goal, up to the capacity of its slices, from its terms upwards.
func spoilGoal(goal []api.Clause) {
	for _, clause := range goal {
		for _, claim := range clause.Claims {
			for _, eq := range claim.Eqs {
				fill(eq.Terms, api.Term{Var: -1, Base: -1})
			}
			fill(claim.Eqs, api.Eq{Target: -1})
		}
		fill(clause.Claims, api.Claim{Vars: -1})
	}
	fill(goal, api.Clause{Need: -1})
}

// fill overwrites a slice up to its capacity.
func fill[T any](l []T, x T) {
	l = l[:cap(l)]
	for i := range l {
		l[i] = x
	}
}

// same reports whether the results of two calls are equal.
func same(a, b results) bool {
	x, y := listsOfResults(&a), listsOfResults(&b)
	return equalSetups(a.setup, b.setup) && equalGoals(a.bitGoal, b.bitGoal) && equalGoals(a.rangeGoal, b.rangeGoal) &&
		slices.EqualFunc(x, y, func(p, q *[]int) bool { return slices.Equal(*p, *q) })
}

// P3.12, P3: arguments are not modified, also not beyond their length, and what is there is not read.
func TestArgumentsAreKept(t *testing.T) {
	want := run(t, sample())
	x, kept := sample(), sample()
	var whole [][]int
	for _, p := range listsOfArguments(&x) {
		w := append(slices.Clone(*p), -77, -78, -79)
		*p = w[:len(*p)]
		whole = append(whole, w)
	}
	x.goal = append(x.goal, api.Clause{Need: -5})[:1]
	if got := run(t, x); !same(got, want) {
		t.Error(got, want)
	}
	for i, p := range listsOfArguments(&kept) {
		if !slices.Equal(whole[i], append(slices.Clone(*p), -77, -78, -79)) {
			t.Error(i, whole[i])
		}
	}
	if !equalGoals(x.goal, kept.goal) || x.goal[:2][1].Need != -5 || !equalSetups(x.setup, kept.setup) || len(x.know[0]) != 2 || x.know[0][1].Has {
		t.Error(x)
	}
}

// P3.12, P3: what is done to results does not change arguments, later results, or other parts of the same result.
func TestResultsAreNew(t *testing.T) {
	want := run(t, sample())
	x := sample()
	got := run(t, x)
	for i, p := range listsOfResults(&got) {
		before := slices.Clone(*p)
		fill(*p, -1000)
		for k, q := range listsOfResults(&got) {
			if k > i && slices.Contains(*q, -1000) {
				t.Error(i, k, *q)
			}
		}
		copy(*p, before)
	}
	if !same(got, want) {
		t.Error(got, want)
	}
	for _, p := range listsOfResults(&got) {
		fill(*p, -1000)
	}
	spoilGoal(got.bitGoal)
	if !equalGoals(got.rangeGoal, want.rangeGoal) {
		t.Error(got.rangeGoal)
	}
	spoilGoal(got.rangeGoal)
	if again := run(t, x); !same(again, want) {
		t.Error(again, want)
	}
	// The parts of one goal are apart.
	goal := proof.Range(small, 16, []int{12, 1})
	fill(goal[0].Claims[0].Eqs[0].Terms, api.Term{Var: -1, Base: -1})
	if terms := termsOf(goal); slices.Index(terms[1:], terms[0]) >= 0 {
		t.Error(goal)
	}
}

// P1: no arguments lead to a panic.
func TestAllArguments(t *testing.T) {
	good := problems()["more"]
	goals := [][]api.Clause{nil, {{}}, good.goal, one(1), one(math.MaxInt, opening(small, 4)), one(1, api.Claim{Vars: math.MinInt}), one(1, api.Claim{Vars: math.MaxInt, Eqs: []api.Eq{{Target: 1}}})}
	for _, bad := range badClaims(small) {
		goals = append(goals, one(1, bad))
	}
	knows := append(badKnowledge(), good.know, make([][]api.Know, 2), [][]api.Know{nil, {{Has: true}}})
	noises := append(badNoise(), good.noise, api.Noise{Nums: make([][][]int, 2), Dares: make([][]int, 2)})
	lists := [][]int{nil, {}, {0}, {1}, {math.MinInt, math.MaxInt}, {4, 2}, ints, make([]int, 60), make([]int, 61), make([]int, 200)}
	for _, s := range slices.Concat(setups, notSetups) {
		for _, goal := range goals {
			proof.ValidGoal(s, goal)
			proof.Text(goal)
			for _, know := range knows {
				proof.Prove(s, goal, "", know, good.noise)
				proof.Explain(s, goal, "", api.Proof{Dares: good.noise.Dares, Answers: good.noise.Nums}, know)
			}
			for _, noise := range noises {
				proof.Prove(s, goal, "", good.know, noise)
				proof.Verify(s, goal, "", api.Proof{Dares: noise.Dares, Answers: noise.Nums})
			}
			if len(goal) == 0 || len(goal[0].Claims) == 0 {
				continue
			}
			for _, l := range lists {
				proof.Holds(s, goal[0].Claims[0], l)
				proof.Simulate(s, goal[0].Claims[0], 1, l)
				proof.Extract(s, goal[0].Claims[0], 1, l, 2, l)
			}
		}
		callWithNumbers(s, lists)
	}
}

// callWithNumbers calls the functions that take numbers and lists of them.
func callWithNumbers(s api.Setup, lists [][]int) {
	for _, l := range lists {
		proof.Make(s.Group, api.Mirror{Bases: l, Blind: 1})
		proof.Mirrors(s, api.Mirror{Bases: l, Blind: 1})
		proof.Weigh(s, l)
		proof.Bits(s, l)
		for _, a := range ints {
			proof.Range(s, a, l)
			proof.Split(s, a, l)
			proof.Rest(s, a, l)
		}
	}
	for _, a := range ints {
		for _, b := range ints {
			proof.Commit(s, a, b)
			proof.Sign(s, a, b, "m")
			proof.Signed(s, a, "m", api.Signature{C: b, S: b})
			proof.Signed(s, 4, "m", api.Signature{C: a, S: b})
		}
	}
}

// P3.4, P3.5: a goal at the limits of clauses, claims and variables is proven without delay.
func TestGreatGoal(t *testing.T) {
	terms := make([]api.Term, api.MaxTerms)
	values := make([]int, api.MaxVars)
	for i := range terms {
		terms[i] = api.Term{Var: i, Base: field.Base(large.Group, string(rune('A'+i)))}
		values[i] = i * i
	}
	claim := api.Claim{Vars: api.MaxVars, Eqs: []api.Eq{{Target: target(large.Group, terms, values), Terms: terms}}}
	goal := slices.Concat(one(api.MaxClaims, slices.Repeat([]api.Claim{claim}, api.MaxClaims)...), one(1, slices.Repeat([]api.Claim{claim}, api.MaxClaims)...))
	goal = append(goal, slices.Repeat(one(1, opening(large, large.Blind), opening(large, 4)), api.MaxClauses-2)...)
	x := problem{setup: large, goal: goal}
	for i, clause := range goal {
		row, nums, dares := make([]api.Know, len(clause.Claims)), make([][]int, len(clause.Claims)), make([]int, len(clause.Claims))
		for k, claim := range clause.Claims {
			nums[k] = make([]int, claim.Vars)
			row[k] = known(values...)
			if i > 1 {
				row[k] = known(k, 1-k)
			}
			if k >= clause.Need {
				dares[k] = i + k
			}
		}
		x.know, x.noise.Nums, x.noise.Dares = append(x.know, row), append(x.noise.Nums, nums), append(x.noise.Dares, dares)
	}
	p, e := proof.Prove(large, goal, "great", x.know, x.noise)
	if e != api.OK || !proof.Verify(large, goal, "great", p) {
		t.Fatal(e)
	}
	checkProof(t, x, "great", p)
}
