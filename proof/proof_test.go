package proof_test

import (
	"maps"
	"math"
	"math/rand/v2"
	"slices"
	"testing"

	"cloak/api"
	"cloak/base"
	"cloak/field"
	"cloak/proof"
)

// known returns knowledge of a claim.
func known(values ...int) api.Know { return api.Know{Has: true, Values: values} }

// text returns what tells proofs apart.
func text(p api.Proof) string {
	s, ok := proof.Encode(p)
	if !ok {
		return "no proof"
	}
	return s
}

// noiseText returns what tells noise apart.
func noiseText(n api.Noise) string { return text(api.Proof{Dares: n.Dares, Answers: n.Nums}) }

// problem is something to prove.
type problem struct {
	setup api.Setup
	goal  []api.Clause
	know  [][]api.Know
	noise api.Noise
}

// problems are goals with knowledge that is sufficient and noise that matches, with all that may make a difference.
func problems() map[string]problem {
	two := one(1, opening(small, 16), opening(small, 3))
	three := one(2, opening(small, 16), opening(small, 3), opening(small, 9))
	last := one(1, opening(small, 12))
	empty := api.Claim{Eqs: []api.Eq{{Target: 1}}}
	return map[string]problem{
		"first": {small, two, [][]api.Know{{known(3, 2), {}}}, api.Noise{Nums: [][][]int{{{1, 2}, {3, 4}}}, Dares: [][]int{{0, 7}}}},
		"last":  {small, two, [][]api.Know{{{}, known(4, 0)}}, api.Noise{Nums: [][][]int{{{1, 2}, {3, 4}}}, Dares: [][]int{{7, 0}}}},
		// Only the first Need known claims are proven, so the last one has a challenge of its own.
		"more":  {small, slices.Concat(three, last), [][]api.Know{{known(3, 2), known(4, 0), known(8, 0)}, {known(0, 1)}}, api.Noise{Nums: [][][]int{{{1, 2}, {3, 4}, {5, 6}}, {{7, 8}}}, Dares: [][]int{{0, 0, 7}, {0}}}},
		"holes": {small, slices.Concat(last, three), [][]api.Know{{known(5, 0)}, {known(3, 2), {}, known(3, 1)}}, api.Noise{Nums: [][][]int{{{7, 8}}, {{1, 2}, {3, 4}, {5, 6}}}, Dares: [][]int{{0}, {0, 9, 0}}}},
		// The first values fit, but the claim does not hold for them, so it is simulated; the values of the second one do not fit, but are ignored.
		"wrong": {small, three, [][]api.Know{{known(3, 3), known(4, 0), known(3, 1)}}, api.Noise{Nums: [][][]int{{{1, 2}, {3, 4}, {5, 6}}}, Dares: [][]int{{3, 0, 0}}}},
		"noHas": {small, two, [][]api.Know{{{Values: []int{11, 5, 5}}, known(4, 0)}}, api.Noise{Nums: [][][]int{{{1, 2}, {3, 4}}}, Dares: [][]int{{0, 0}}}},
		"all":   {small, one(2, opening(small, 16), opening(small, 3)), [][]api.Know{{known(3, 2), known(4, 0)}}, api.Noise{Nums: [][][]int{{{0, 0}, {10, 10}}}, Dares: [][]int{{0, 0}}}},
		"empty": {large, one(1, empty, opening(large, 4)), [][]api.Know{{known(), {}}}, api.Noise{Nums: [][][]int{{{}, {large.Group.Q - 1, 5}}}, Dares: [][]int{{0, large.Group.Q - 1}}}},
		"large": largeProblem(),
	}
}

// largeProblem is a problem in the great group, with claims of several equations and variables.
func largeProblem() problem {
	q := large.Group.Q
	values := []int{987654321987654321, 505447028499293771, q - 1}
	two := api.Claim{Vars: 3, Eqs: []api.Eq{
		{Target: 698734080864217492, Terms: []api.Term{{Var: 0, Base: 4}, {Var: 1, Base: large.Blind}}},
		{Target: 2072965856169892919, Terms: []api.Term{{Var: 0, Base: large.Bases[0]}, {Var: 2, Base: large.Bases[1]}, {Var: 0, Base: large.Bases[0]}}},
	}}
	other := api.Claim{Vars: 1, Eqs: []api.Eq{{Target: large.Bases[1], Terms: []api.Term{{Var: 0, Base: large.Blind}}}}}
	empty := api.Claim{Eqs: []api.Eq{{Target: 1}}}
	return problem{
		large,
		slices.Concat(one(1, other, two, other), one(2, empty, two)),
		[][]api.Know{{{}, known(values...), {}}, {known(), known(values...)}},
		api.Noise{Nums: [][][]int{{{17}, {1, q - 1, 1000000000000000000}, {5}}, {{}, {10000000000000000, 3, 0}}}, Dares: [][]int{{q - 1, 0, 123456789}, {0, 0}}},
	}
}

// P3.4: numbers that were calculated by another program.
func TestProveExamples(t *testing.T) {
	l := problems()
	for _, x := range []struct{ name, want string }{
		{"holes", "19[2;1;4;2;5;8;3;1;2;4;4;9;2;3;4;6;2;1;1;]"},
		{"large", "21[2;3;1152921504606845788;1;17;869468817206169167;3;993618533115740315;788477070992353930;130531182793830833;123456789;1;5;2;850358062325486652;0;850358062325486652;3;920431238459468587;247499020348241747;302563442281359137;]"},
	} {
		goal, ctx := l[x.name].goal, "a,b;"
		if x.name == "holes" {
			ctx = "gate 1"
		}
		p, e := proof.Prove(l[x.name].setup, goal, ctx, l[x.name].know, l[x.name].noise)
		if got := text(p); got != x.want || e != api.OK {
			t.Error(x.name, got, e)
		}
	}
}

// P3.4, P3.14: the proof is made as the contract says, and is accepted.
func TestProve(t *testing.T) {
	for name, x := range problems() {
		for _, ctx := range []string{"", "gate", "3:a,b,", string([]byte{0, 255})} {
			p, e := proof.Prove(x.setup, x.goal, ctx, x.know, x.noise)
			if e != api.OK || !proof.Verify(x.setup, x.goal, ctx, p) {
				t.Error(name, ctx, p, e)
			}
			checkProof(t, x, ctx, p)
		}
	}
	r := random()
	for range 300 {
		for _, s := range setups {
			x := randomProblem(r, s)
			p, e := proof.Prove(s, x.goal, "random", x.know, x.noise)
			if e != api.OK || !proof.Verify(s, x.goal, "random", p) {
				t.Fatal(x, p, e)
			}
			checkProof(t, x, "random", p)
		}
	}
}

// randomProblem returns a goal with sufficient knowledge and matching noise. Knowledge that is not needed is sometimes there, and sometimes wrong.
func randomProblem(r *rand.Rand, s api.Setup) problem {
	x := problem{setup: s}
	for range 1 + r.IntN(3) {
		n := 1 + r.IntN(4)
		clause := api.Clause{Need: 1 + r.IntN(n)}
		row := make([]api.Know, n)
		for k := range n {
			claim, values := randomClaim(r, s)
			clause.Claims = append(clause.Claims, claim)
			row[k] = known(values...)
		}
		for range r.IntN(n - clause.Need + 1) {
			spoilKnowledge(r, s, &row[r.IntN(n)])
		}
		x.goal = append(x.goal, clause)
		x.know = append(x.know, row)
	}
	for i, clause := range x.goal {
		dares, nums := make([]int, len(clause.Claims)), make([][]int, len(clause.Claims))
		for k, claim := range clause.Claims {
			if !slices.Contains(firstKnown(x, i), k) {
				dares[k] = r.IntN(s.Group.Q)
			}
			for range claim.Vars {
				nums[k] = append(nums[k], r.IntN(s.Group.Q))
			}
		}
		x.noise.Dares = append(x.noise.Dares, dares)
		x.noise.Nums = append(x.noise.Nums, nums)
	}
	return x
}

// spoilKnowledge removes knowledge, or changes it.
func spoilKnowledge(r *rand.Rand, s api.Setup, k *api.Know) {
	if len(k.Values) == 0 || r.IntN(2) == 0 {
		k.Has = false
		return
	}
	i := r.IntN(len(k.Values))
	k.Values[i] = (k.Values[i] + 1) % s.Group.Q
}

// firstKnown returns the indices of the first Need known claims of the clause i.
func firstKnown(x problem, i int) []int {
	var l []int
	for k, know := range x.know[i] {
		if know.Has && proof.Holds(x.setup, x.goal[i].Claims[k], know.Values) {
			l = append(l, k)
		}
	}
	return l[:min(x.goal[i].Need, len(l))]
}

// commitments returns the commitments of a proof.
func commitments(s api.Setup, goal []api.Clause, dares [][]int, answers [][][]int) []int {
	var l []int
	for i, clause := range goal {
		for k, claim := range clause.Claims {
			for _, eq := range claim.Eqs {
				l = append(l, field.Over(s.Group, target(s.Group, eq.Terms, answers[i][k]), power(s.Group, eq.Target, dares[i][k])))
			}
		}
	}
	return l
}

// rootOf returns the root for a goal, a context and commitments.
func rootOf(s api.Setup, goal []api.Clause, ctx string, commits []int) int {
	return field.Number(base.Text(proof.Text(goal))+base.Text(ctx)+base.Nums(commits), s.Group.Q)
}

// fitsRoot reports whether challenges fit a root: each of those after the first n - Need ones is the value of the polynomial of n - Need + 1 coefficients through the root and these.
func fitsRoot(q, need, c int, dares []int) bool {
	n := len(dares)
	xs := []int{0}
	for k := range n - need {
		xs = append(xs, k+1)
	}
	for k := n - need; k < n; k++ {
		w, _ := field.Weights(q, xs, k+1)
		d := field.Mul(q, w[0], c)
		for i, f := range w[1:] {
			d = field.Add(q, d, field.Mul(q, f, dares[i]))
		}
		if d != dares[k] {
			return false
		}
	}
	return true
}

// checkProof compares a proof with the contract of Prove.
func checkProof(t *testing.T, x problem, ctx string, p api.Proof) {
	t.Helper()
	q := x.setup.Group.Q
	// The proven claims have the challenge 0 in the noise.
	c := rootOf(x.setup, x.goal, ctx, commitments(x.setup, x.goal, x.noise.Dares, x.noise.Nums))
	for i, clause := range x.goal {
		proven := firstKnown(x, i)
		if len(p.Dares[i]) != len(clause.Claims) || len(p.Answers[i]) != len(clause.Claims) || !fitsRoot(q, clause.Need, c, p.Dares[i]) {
			t.Fatal("challenges", x, p)
		}
		for k := range clause.Claims {
			want := slices.Clone(x.noise.Nums[i][k])
			if slices.Contains(proven, k) {
				for v := range want {
					want[v] = field.Add(q, want[v], field.Mul(q, p.Dares[i][k], x.know[i][k].Values[v]))
				}
			} else if p.Dares[i][k] != x.noise.Dares[i][k] {
				t.Fatal("challenge of a simulated claim", x, p)
			}
			if !slices.Equal(p.Answers[i][k], want) {
				t.Fatal("answers", x, p, want)
			}
		}
	}
	if len(p.Dares) != len(x.goal) || len(p.Answers) != len(x.goal) {
		t.Fatal(x, p)
	}
}

// badKnowledge returns changes of the knowledge of "more" that do not fit.
func badKnowledge() [][][]api.Know {
	row, last := []api.Know{known(3, 2), known(4, 0), known(8, 0)}, []api.Know{known(0, 1)}
	return [][][]api.Know{
		nil, {row}, {row, last, nil}, {row, last, last}, {row[:2], last}, {append(slices.Clone(row), api.Know{}), last}, {row, nil}, {last, row},
		{{known(3), row[1], row[2]}, last}, {{known(3, 2, 0), row[1], row[2]}, last}, {{row[0], row[1], known()}, last},
		{{row[0], row[1], known(8, 11)}, last}, {{row[0], row[1], known(-3, 0)}, last}, {row, {known(0, 12)}}, {row, {known(math.MinInt, math.MaxInt)}},
	}
}

// badNoise returns noise that does not fit "more".
func badNoise() []api.Noise {
	d, n := [][]int{{0, 0, 7}, {0}}, [][][]int{{{1, 2}, {3, 4}, {5, 6}}, {{7, 8}}}
	l := []api.Noise{{}, {Nums: n}, {Dares: d}}
	for _, x := range [][][]int{d[:1], append(slices.Clone(d), nil), {{0, 0}, {0}}, {{0, 0, 7, 0}, {0}}, {{0, 0, 7}, nil}, {{0, 0, 11}, {0}}, {{0, 0, -1}, {0}}, {{11, 0, 7}, {0}}, {{0, 0, 7}, {math.MinInt}}} {
		l = append(l, api.Noise{Nums: n, Dares: x})
	}
	for _, x := range [][][][]int{n[:1], append(slices.Clone(n), nil), {n[0][:2], n[1]}, {append(slices.Clone(n[0]), nil), n[1]}, {n[0], nil}, {{{1}, {3, 4}, {5, 6}}, n[1]}, {{{1, 2}, {3, 4}, {5, 6, 0}}, n[1]}, {{{1, 2}, {3, 4}, {5, 11}}, n[1]}, {{{1, -2}, {3, 4}, {5, 6}}, n[1]}, {n[0], {{7, math.MaxInt}}}} {
		l = append(l, api.Noise{Nums: x, Dares: d})
	}
	return l
}

// wantError checks that Prove returns an error and nothing else.
func wantError(t *testing.T, x problem, want api.Errno) {
	t.Helper()
	if p, e := proof.Prove(x.setup, x.goal, "gate", x.know, x.noise); e != want || p.Dares != nil || p.Answers != nil {
		t.Error(x.know, x.noise, p, e, want)
	}
}

// P3.4
func TestProveErrors(t *testing.T) {
	good := problems()["more"]
	less := [][]api.Know{{known(3, 2), {}, known(8, 1)}, {known(0, 1)}}
	unmatched := api.Noise{Nums: good.noise.Nums, Dares: [][]int{{0, 1, 7}, {0}}}
	for _, noise := range []api.Noise{good.noise, unmatched} {
		wantError(t, problem{small, good.goal, less, noise}, api.ErrUnsat)
		wantError(t, problem{small, good.goal, [][]api.Know{good.know[0], {{}}}, noise}, api.ErrUnsat)
		wantError(t, problem{small, good.goal, [][]api.Know{make([]api.Know, 3), {{}}}, noise}, api.ErrUnsat)
	}
	wantError(t, problem{small, good.goal, good.know, unmatched}, api.ErrRange)
	wantError(t, problem{small, good.goal, good.know, api.Noise{Nums: good.noise.Nums, Dares: [][]int{{0, 0, 7}, {1}}}}, api.ErrRange)
	wantError(t, problem{small, good.goal, [][]api.Know{{{}, known(4, 0), known(8, 0)}, {known(0, 1)}}, good.noise}, api.ErrRange)
	for _, know := range badKnowledge() {
		wantError(t, problem{small, good.goal, know, good.noise}, api.ErrArg)
		wantError(t, problem{small, good.goal, know, unmatched}, api.ErrArg)
	}
	for _, noise := range badNoise() {
		wantError(t, problem{small, good.goal, good.know, noise}, api.ErrArg)
		wantError(t, problem{small, good.goal, less, noise}, api.ErrArg)
	}
	goal := slices.Clone(good.goal)
	goal[0].Need = 4
	wantError(t, problem{small, goal, good.know, good.noise}, api.ErrArg)
	wantError(t, problem{small, goal, less, unmatched}, api.ErrArg)
	wantError(t, problem{setup: small}, api.ErrArg)
	for _, s := range notSetups {
		wantError(t, problem{s, good.goal, good.know, good.noise}, api.ErrArg)
	}
}

// copyProof returns a copy of a proof, with a change.
func copyProof(p api.Proof, change func(p *api.Proof)) api.Proof {
	q, ok := proof.Decode(text(p))
	if !ok {
		panic("no proof")
	}
	change(&q)
	return q
}

// variants returns proofs that differ from p in a single number, for each of its numbers.
func variants(p api.Proof, add int) []api.Proof {
	var l []api.Proof
	for i, row := range p.Dares {
		for k := range row {
			l = append(l, copyProof(p, func(p *api.Proof) { p.Dares[i][k] += add }))
			for v := range p.Answers[i][k] {
				l = append(l, copyProof(p, func(p *api.Proof) { p.Answers[i][k][v] += add }))
			}
		}
	}
	return l
}

// malformed returns proofs that have other parts than p.
func malformed(p api.Proof) []api.Proof {
	return []api.Proof{
		{},
		{Dares: p.Dares},
		{Answers: p.Answers},
		copyProof(p, func(p *api.Proof) { p.Dares = append(p.Dares, nil) }),
		copyProof(p, func(p *api.Proof) { p.Answers = append(p.Answers, nil) }),
		copyProof(p, func(p *api.Proof) { p.Dares = p.Dares[:len(p.Dares)-1] }),
		copyProof(p, func(p *api.Proof) { p.Answers = p.Answers[:len(p.Answers)-1] }),
		copyProof(p, func(p *api.Proof) { p.Dares[0] = append(p.Dares[0], 0) }),
		copyProof(p, func(p *api.Proof) { p.Answers[0] = append(p.Answers[0], nil) }),
		copyProof(p, func(p *api.Proof) { p.Dares[0] = p.Dares[0][1:] }),
		copyProof(p, func(p *api.Proof) { p.Answers[0] = p.Answers[0][1:] }),
		copyProof(p, func(p *api.Proof) { p.Answers[0][0] = append(p.Answers[0][0], 0) }),
		copyProof(p, func(p *api.Proof) { i := len(p.Answers) - 1; p.Answers[i][0] = append(p.Answers[i][0], 0) }),
	}
}

// P3.5, P3.20
func TestVerifyFailures(t *testing.T) {
	x := problems()["large"]
	p, _ := proof.Prove(x.setup, x.goal, "gate", x.know, x.noise)
	check := func(s api.Setup, goal []api.Clause, ctx string, p api.Proof, want bool) {
		t.Helper()
		if got := proof.Verify(s, goal, ctx, p); got != want {
			t.Error(goal, ctx, p, got)
		}
	}
	check(large, x.goal, "gate", p, true)
	check(large, x.goal, "gate ", p, false)
	check(large, x.goal, "", p, false)
	check(large, nil, "gate", p, false)
	check(large, x.goal[:1], "gate", p, false)
	check(large, slices.Concat(x.goal, x.goal), "gate", p, false)
	other := slices.Clone(x.goal)
	other[0].Need = 2
	check(large, other, "gate", p, false)
	other = slices.Clone(x.goal)
	other[1].Claims = []api.Claim{changed(x.goal[1].Claims[0], func(c *api.Claim) { c.Eqs = append(c.Eqs, api.Eq{Target: 1}) }), x.goal[1].Claims[1]}
	check(large, other, "gate", p, false)
	for _, v := range slices.Concat(variants(p, 1), variants(p, -1), variants(p, large.Group.Q), variants(p, -large.Group.Q), malformed(p)) {
		check(large, x.goal, "gate", v, false)
	}
	for _, s := range notSetups {
		check(s, x.goal, "gate", p, false)
	}
	// Only claims contain bases: those of the setup are of no importance.
	check(api.Setup{Group: large.Group, Bases: []int{4, 4}, Blind: 4}, x.goal, "gate", p, true)
}

// candidates returns all proofs that have form for a goal of one clause.
func candidates(q int, clause api.Clause) []api.Proof {
	size := len(clause.Claims)
	for _, claim := range clause.Claims {
		size += claim.Vars
	}
	var l []api.Proof
	for _, x := range tuples(q, size) {
		n := len(clause.Claims)
		p := api.Proof{Dares: [][]int{x[:n]}, Answers: [][][]int{nil}}
		for _, claim := range clause.Claims {
			p.Answers[0] = append(p.Answers[0], x[n:n+claim.Vars])
			n += claim.Vars
		}
		l = append(l, p)
	}
	return l
}

// tinyClauses are clauses whose proofs can be listed, each with sufficient knowledge of several kinds.
func tinyClauses() []problem {
	blind := func(x int) api.Claim {
		return api.Claim{Vars: 1, Eqs: []api.Eq{{Target: x, Terms: []api.Term{{Base: tiny.Blind}}}}}
	}
	both := api.Claim{Vars: 1, Eqs: []api.Eq{{Target: 4, Terms: []api.Term{{Base: tiny.Blind}}}, {Target: 5, Terms: []api.Term{{Base: tiny.Bases[1]}}}}}
	never := api.Claim{Vars: 1, Eqs: []api.Eq{{Target: 4}}}
	return []problem{
		{setup: tiny, goal: one(1, blind(4), blind(5)), know: [][]api.Know{{known(2), {}}, {{}, known(4)}, {known(2), known(4)}, {known(0), known(4)}}},
		{setup: tiny, goal: one(2, blind(4), blind(5)), know: [][]api.Know{{known(2), known(4)}}},
		{setup: tiny, goal: one(1, opening(tiny, 3)), know: [][]api.Know{{known(4, 0)}, {known(1, 1)}, {known(3, 2)}}},
		{setup: tiny, goal: one(1, blind(9), never), know: [][]api.Know{{known(1), {}}, {known(1), known(1)}}},
		{setup: tiny, goal: one(1, both, blind(1)), know: [][]api.Know{{{}, known(0)}}},
		{setup: tiny, goal: one(2, blind(4), blind(5), api.Claim{Eqs: []api.Eq{{Target: 1}}}), know: [][]api.Know{{known(2), known(4), {}}, {known(2), {}, known()}, {{}, known(4), known()}, {known(2), known(4), known()}}},
		{setup: tiny, goal: one(1, blind(4), blind(1), api.Claim{Eqs: []api.Eq{{Target: 9}}}), know: [][]api.Know{{known(2), {}, {}}, {{}, known(0), {}}, {known(1), known(0), known()}}},
	}
}

// P3.5: by the definition, for all proofs that have form.
func TestVerifyAll(t *testing.T) {
	for _, x := range tinyClauses() {
		n, q := len(x.goal[0].Claims), tiny.Group.Q
		for _, p := range candidates(q, x.goal[0]) {
			c := rootOf(tiny, x.goal, "ctx", commitments(tiny, x.goal, p.Dares, p.Answers))
			want := false
			for _, rest := range tuples(q, n-x.goal[0].Need) {
				polynomial := append([]int{c}, rest...)
				meets := true
				for k, d := range p.Dares[0] {
					meets = meets && field.At(q, polynomial, k+1) == d
				}
				want = want || meets
			}
			if got := proof.Verify(tiny, x.goal, "ctx", p); got != want {
				t.Fatal(x, p, got)
			}
		}
	}
}

// proofsOf returns the proofs to which each noise that matches leads, and how many there are of this noise.
func proofsOf(t *testing.T, x problem, know []api.Know) (map[string]api.Noise, int) {
	found, count := map[string]api.Noise{}, 0
	for _, p := range candidates(tiny.Group.Q, x.goal[0]) {
		noise := api.Noise{Dares: p.Dares, Nums: p.Answers}
		made, e := proof.Prove(tiny, x.goal, "ctx", [][]api.Know{know}, noise)
		if e == api.OK {
			found[text(made)] = noise
			count++
		} else if e != api.ErrRange {
			t.Fatal(x, noise, e)
		}
	}
	return found, count
}

// P3.13, P3.6: for each knowledge, each accepted proof comes from exactly one noise, and this is the one that Explain returns.
func TestWitnessIndistinguishability(t *testing.T) {
	for _, x := range tinyClauses() {
		accepted := map[string]bool{}
		all := candidates(tiny.Group.Q, x.goal[0])
		for _, p := range all {
			if proof.Verify(tiny, x.goal, "ctx", p) {
				accepted[text(p)] = true
			}
		}
		for _, know := range x.know {
			found, count := proofsOf(t, x, know)
			if len(found) != count || len(found) == 0 || !maps.EqualFunc(found, accepted, func(api.Noise, bool) bool { return true }) {
				t.Fatal(x.goal, know, len(found), count, len(accepted))
			}
			for _, p := range all {
				noise, ok := proof.Explain(tiny, x.goal, "ctx", p, [][]api.Know{know})
				want, is := found[text(p)]
				if ok != is || noiseText(noise) != noiseText(want) {
					t.Fatal(x.goal, know, p, noise, ok)
				}
			}
		}
	}
}

// P3.6: what Explain returns is explained by the proof, also for other knowledge.
func TestExplain(t *testing.T) {
	r := random()
	for range 200 {
		for _, s := range setups {
			x := randomProblem(r, s)
			p, _ := proof.Prove(s, x.goal, "random", x.know, x.noise)
			if n, ok := proof.Explain(s, x.goal, "random", p, x.know); !ok || noiseText(n) != noiseText(x.noise) {
				t.Fatal(x, p, n, ok)
			}
			other := everythingKnown(x)
			n, ok := proof.Explain(s, x.goal, "random", p, other)
			again, e := proof.Prove(s, x.goal, "random", other, n)
			if !ok || e != api.OK || text(again) != text(p) {
				t.Fatal(x, p, n, ok, e)
			}
		}
	}
}

// everythingKnown returns the knowledge of a problem, with all claims that hold for their values known.
func everythingKnown(x problem) [][]api.Know {
	var l [][]api.Know
	for _, row := range x.know {
		row = slices.Clone(row)
		for k := range row {
			row[k].Has = true
		}
		l = append(l, row)
	}
	return l
}

// P3.6
func TestExplainFailures(t *testing.T) {
	x := problems()["more"]
	p, _ := proof.Prove(small, x.goal, "gate", x.know, x.noise)
	check := func(s api.Setup, goal []api.Clause, ctx string, p api.Proof, know [][]api.Know) {
		t.Helper()
		if n, ok := proof.Explain(s, goal, ctx, p, know); ok || n.Dares != nil || n.Nums != nil {
			t.Error(goal, ctx, p, know, n)
		}
	}
	if _, ok := proof.Explain(small, x.goal, "gate", p, x.know); !ok {
		t.Error("no explanation")
	}
	for _, know := range badKnowledge() {
		check(small, x.goal, "gate", p, know)
	}
	check(small, x.goal, "gate", p, [][]api.Know{{{}, {}, known(8, 0)}, {known(0, 1)}})
	check(small, x.goal, "gate", p, [][]api.Know{{known(3, 2), known(4, 0), known(8, 0)}, {{}}})
	check(small, x.goal, "gate", p, [][]api.Know{{known(3, 2), known(4, 1), known(8, 1)}, {known(0, 1)}})
	check(small, nil, "gate", p, nil)
	for _, v := range slices.Concat(variants(p, small.Group.Q), variants(p, -small.Group.Q), malformed(p)) {
		check(small, x.goal, "gate", v, x.know)
	}
	for _, s := range notSetups {
		check(s, x.goal, "gate", p, x.know)
	}
	y := problems()["large"]
	p, _ = proof.Prove(large, y.goal, "gate", y.know, y.noise)
	check(large, y.goal, "gates", p, y.know)
	for _, v := range variants(p, 1) {
		check(large, y.goal, "gate", v, y.know)
	}
}

// P3.7
func TestSimulate(t *testing.T) {
	if l := proof.Simulate(small, opening(small, 16), 1, []int{4, 2}); !slices.Equal(l, []int{4}) {
		t.Error(l)
	}
	r := random()
	for range 200 {
		for _, s := range setups {
			claim, answers := randomClaim(r, s)
			dare := r.IntN(s.Group.Q)
			want := commitments(s, one(1, claim), [][]int{{dare}}, [][][]int{{answers}})
			if l := proof.Simulate(s, claim, dare, answers); !slices.Equal(l, want) {
				t.Fatal(claim, dare, answers, l, want)
			}
		}
	}
	for _, x := range []struct {
		dare    int
		answers []int
	}{{-1, []int{4, 2}}, {11, []int{4, 2}}, {math.MinInt, []int{4, 2}}, {1, nil}, {1, []int{4}}, {1, []int{4, 2, 0}}, {1, []int{4, 11}}, {1, []int{-1, 2}}} {
		if l := proof.Simulate(small, opening(small, 16), x.dare, x.answers); len(l) != 0 {
			t.Error(x, l)
		}
	}
	for i, bad := range badClaims(small) {
		for _, answers := range [][]int{nil, {0}, {4, 2}, make([]int, 121)} {
			if l := proof.Simulate(small, bad, 1, answers); len(l) != 0 {
				t.Error(i, l)
			}
		}
	}
	for _, s := range notSetups {
		if l := proof.Simulate(s, opening(small, 16), 1, []int{4, 2}); len(l) != 0 {
			t.Error(s, l)
		}
	}
}

// P3.7: by the definition, for all challenges and answers.
func TestExtractAll(t *testing.T) {
	claim := opening(tiny, 3)
	q := tiny.Group.Q
	for _, x := range tuples(q+1, 6) {
		d1, a1, d2, a2 := x[0], x[1:3], x[3], x[4:6]
		c1, c2 := proof.Simulate(tiny, claim, d1, a1), proof.Simulate(tiny, claim, d2, a2)
		values, ok := proof.Extract(tiny, claim, d1, a1, d2, a2)
		want := len(c1) > 0 && slices.Equal(c1, c2) && d1 != d2
		if ok != want || !ok && len(values) != 0 {
			t.Fatal(x, values, ok)
		}
		if !ok {
			continue
		}
		for i, v := range values {
			if field.Mul(q, v, d1-d2) != field.Sub(q, a1[i], a2[i]) || v < 0 || v >= q {
				t.Fatal(x, values)
			}
		}
		if !proof.Holds(tiny, claim, values) {
			t.Fatal(x, values)
		}
	}
}

// P3.7
func TestExtract(t *testing.T) {
	c := opening(small, 16)
	if v, ok := proof.Extract(small, c, 1, []int{4, 2}, 3, []int{10, 6}); !ok || !slices.Equal(v, []int{3, 2}) {
		t.Error(v, ok)
	}
	if v, ok := proof.Extract(small, api.Claim{Eqs: []api.Eq{{Target: 1}}}, 1, nil, 2, nil); !ok || len(v) != 0 {
		t.Error(v, ok)
	}
	fail := func(s api.Setup, claim api.Claim, d1 int, a1 []int, d2 int, a2 []int) {
		t.Helper()
		if v, ok := proof.Extract(s, claim, d1, a1, d2, a2); ok || len(v) != 0 {
			t.Error(claim, d1, a1, d2, a2, v)
		}
	}
	fail(small, api.Claim{Eqs: []api.Eq{{Target: 4}}}, 1, nil, 2, nil)
	fail(small, c, 1, []int{4, 2}, 1, []int{4, 2})
	fail(small, c, 1, []int{4, 2}, 3, []int{10, 7})
	fail(small, c, 1, []int{4, 2}, 3, nil)
	fail(small, c, 1, []int{4, 2}, 14, []int{10, 6})
	fail(small, c, -10, []int{4, 2}, 3, []int{10, 6})
	fail(small, c, 1, []int{15, 2}, 3, []int{10, 6})
	fail(small, c, 11, nil, 12, nil)
	// The first commitments are equal, the second ones are not.
	pair := changed(c, func(c *api.Claim) { c.Eqs = append(c.Eqs, api.Eq{Target: 4}) })
	fail(small, pair, 1, []int{4, 2}, 3, []int{10, 6})
	for _, bad := range badClaims(small) {
		fail(small, bad, 1, []int{4, 2}, 3, []int{10, 6})
	}
	for _, s := range notSetups {
		fail(s, c, 1, []int{4, 2}, 3, []int{10, 6})
	}
}

// P3.15: proofs in two contexts with the same commitments reveal values of at least Need claims of each clause, also if different knowledge was used.
func TestSpecialSoundness(t *testing.T) {
	r := random()
	for range 200 {
		x := randomProblem(r, large)
		other := everythingKnown(x)
		p1, _ := proof.Prove(large, x.goal, "first", x.know, x.noise)
		n, _ := proof.Explain(large, x.goal, "first", p1, other)
		p2, e := proof.Prove(large, x.goal, "second", other, n)
		if e != api.OK || !proof.Verify(large, x.goal, "second", p2) {
			t.Fatal(x, e)
		}
		for i, clause := range x.goal {
			revealed := 0
			for k, claim := range clause.Claims {
				v, ok := proof.Extract(large, claim, p1.Dares[i][k], p1.Answers[i][k], p2.Dares[i][k], p2.Answers[i][k])
				if ok != (p1.Dares[i][k] != p2.Dares[i][k]) || ok && !proof.Holds(large, claim, v) {
					t.Fatal(x, i, k, v, ok)
				}
				if ok {
					revealed++
				}
			}
			if revealed < clause.Need {
				t.Fatal(x, i, revealed)
			}
		}
	}
}

// P3.18: adding the challenge times the values is a bijection that keeps the commitments.
func TestPerfectSimulation(t *testing.T) {
	r := random()
	q := tiny.Group.Q
	for range 40 {
		claim, values := randomClaim(r, tiny)
		for dare := range q {
			reached := map[string]bool{}
			for _, nums := range tuples(q, claim.Vars) {
				answers := make([]int, len(nums))
				for i := range nums {
					answers[i] = (nums[i] + dare*values[i]) % q
				}
				reached[base.Nums(answers)] = true
				if !slices.Equal(proof.Simulate(tiny, claim, 0, nums), proof.Simulate(tiny, claim, dare, answers)) {
					t.Fatal(claim, values, dare, nums)
				}
			}
			if len(reached) != len(tuples(q, claim.Vars)) {
				t.Fatal(claim, values, dare)
			}
		}
	}
}
