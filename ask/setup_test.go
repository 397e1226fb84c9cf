package ask_test

import (
	"cmp"
	"math/rand/v2"
	"slices"
	"strconv"
	"strings"
	"testing"

	"cloak/api"
	"cloak/ask"
)

// atom returns an atom.
func atom(left, right string, c int) api.Pred { return api.Pred{Left: left, Right: right, C: c} }

func all(kids ...api.Pred) api.Pred  { return api.Pred{Kind: api.PrAll, Kids: kids} }
func some(kids ...api.Pred) api.Pred { return api.Pred{Kind: api.PrSome, Kids: kids} }
func least(c int, kids ...api.Pred) api.Pred {
	return api.Pred{Kind: api.PrLeast, C: c, Kids: kids}
}

// equal reports whether two predicates are equal; an empty list of Kids may be nil or not.
func equal(p, q api.Pred) bool {
	return p.Kind == q.Kind && p.Left == q.Left && p.Right == q.Right && p.C == q.C && slices.EqualFunc(p.Kids, q.Kids, equal)
}

func equalLists(a, b []api.Pred) bool { return slices.EqualFunc(a, b, equal) }

// pred returns the predicate that a text between the braces of a question denotes.
func pred(t *testing.T, text string) api.Pred {
	t.Helper()
	_, p, at, e := ask.Parse("question q { " + text + " }")
	if e != api.OK {
		t.Fatal(text, at, e)
	}
	return p
}

func preds(t *testing.T, texts ...string) []api.Pred {
	t.Helper()
	var l []api.Pred
	for _, text := range texts {
		l = append(l, pred(t, text))
	}
	return l
}

// nested returns a predicate with a number of levels, whose nodes have two kids, or one if they are PrLeast.
func nested(kind, levels int) api.Pred {
	p := atom("x.a", "", 1)
	for range levels - 1 {
		if kind == api.PrLeast {
			p = least(1, p)
		} else {
			p = api.Pred{Kind: kind, Kids: []api.Pred{atom("x.b", "", 2), p}}
		}
	}
	return p
}

// wide returns n atoms of one name.
func wide(n int) []api.Pred {
	l := make([]api.Pred, n)
	for i := range l {
		l[i] = atom("x.a", "", i)
	}
	return l
}

// numbered returns n names in ascending order.
func numbered(n int) []string {
	l := make([]string, n)
	for i := range l {
		l[i] = "x.n" + string(rune('a'+i))
	}
	return l
}

// endless returns a predicate that contains itself.
func endless(kind int) api.Pred {
	kids := make([]api.Pred, 2)
	p := api.Pred{Kind: kind, Kids: kids}
	if kind == api.PrLeast {
		p.C = 1
	}
	kids[0], kids[1] = p, p
	return p
}

// notNodes returns predicates that are not valid because of the form of a node.
func notNodes() []api.Pred {
	a, two := atom("x.a", "", 3), wide(2)
	l := []api.Pred{
		atom("x.a", "", api.MaxNumber), atom("x.a", "", -api.MaxNumber-1), atom("x.a", "", 1<<62), atom("x.a", "", -1<<63),
		atom("x", "", 0), atom("", "x", 0), atom("x.", "", 0), atom("", ".x", 0), atom("x.in", "", 0), atom("x.a", "not.a", 0), atom("x.a.b", "x.a", 0), atom("x.a ", "x.a", 0), atom("0", "", 0),
		{Left: "x.a", C: 3, Kids: []api.Pred{a}}, {Kids: []api.Pred{{}}}, {Kids: two},
		{Kind: -1}, {Kind: -1, Kids: two}, {Kind: api.PrKinds}, {Kind: api.PrKinds, Kids: two, C: 1}, {Kind: 1 << 40, Kids: two}, {Kind: -1 << 63, Kids: two},
		all(), all(a), some(), some(a), least(1), least(0), least(0, a), least(2, a), least(-1, a), least(0, two...), least(3, two...), least(1<<62, two...), least(-1<<63, two...),
		{Kind: api.PrAll, C: 1, Kids: two}, {Kind: api.PrAll, C: -1, Kids: two}, {Kind: api.PrSome, C: 1, Kids: two}, {Kind: api.PrSome, C: 2, Kids: two},
	}
	for _, kind := range []int{api.PrAll, api.PrSome, api.PrLeast} {
		c := 0
		if kind == api.PrLeast {
			c = 1
		}
		l = append(l, api.Pred{Kind: kind, C: c, Left: "x.a", Kids: two}, api.Pred{Kind: kind, C: c, Right: "x.a", Kids: two})
	}
	return l
}

// notPreds returns predicates that are not valid.
func notPreds() []api.Pred {
	a := atom("x.a", "", 3)
	huge := slices.Repeat(wide(2), 1<<16)
	deep := a
	for range 1<<16 - 1 {
		deep = least(1, deep)
	}
	l := []api.Pred{
		nested(api.PrAll, 13), nested(api.PrSome, 13), nested(api.PrLeast, 13), nested(api.PrLeast, 101), all(a, nested(api.PrLeast, 12)),
		all(wide(100)...), some(wide(100)...), least(1, wide(100)...), least(50, wide(101)...), all(some(wide(49)...), some(wide(49)...)),
		all(huge...), some(huge...), least(1, huge...), deep,
		endless(api.PrAll), endless(api.PrSome), endless(api.PrLeast),
	}
	for _, p := range notNodes() {
		// It does not matter where the node stands.
		l = append(l, p, all(a, p), some(p, a), least(1, a, least(1, all(a, p)), a))
	}
	return l
}

// tree is a source of random predicates.
type tree struct {
	*rand.Rand
	names []string // of the atoms; the empty name is one of the sides now and then
	low   int      // the least C
	high  int      // the greatest C
	atoms int      // how many atoms are chosen from (0: any number)
	pool  []api.Pred
}

// random returns a source of predicates that are the same in each run.
func random(names []string, low, high, atoms int) *tree {
	return &tree{Rand: rand.New(rand.NewPCG(5, uint64(len(names)*1000+high))), names: names, low: low, high: high, atoms: atoms}
}

// fresh chooses other atoms for the predicates from now on.
func (r *tree) fresh() *tree {
	var pool []api.Pred
	r.pool = nil
	for range r.atoms {
		pool = append(pool, r.atom())
	}
	r.pool = pool
	return r
}

func (r *tree) side() string {
	i := r.IntN(len(r.names)*2 + 2)
	if i >= len(r.names)*2 {
		return ""
	}
	return r.names[i/2]
}

func (r *tree) atom() api.Pred {
	if len(r.pool) > 0 {
		p := r.pool[r.IntN(len(r.pool))]
		if r.IntN(3) == 0 {
			p = atom(p.Right, p.Left, -p.C-1)
		}
		return p
	}
	return atom(r.side(), r.side(), r.low+r.IntN(r.high-r.low+1))
}

// pred returns a valid predicate with at most so many levels.
func (r *tree) pred(levels int) api.Pred {
	kind := r.IntN(5)
	if levels == 1 || kind >= api.PrKinds || kind == api.PrAtom {
		return r.atom()
	}
	p := api.Pred{Kind: kind}
	for range 2 + r.IntN(2) {
		p.Kids = append(p.Kids, r.pred(levels-1))
	}
	if kind == api.PrLeast {
		p.Kids = p.Kids[r.IntN(2):]
		p.C = 1 + r.IntN(len(p.Kids))
	}
	return p
}

// value returns the value of a name, where the first of names has the first of values, and so on.
func value(name string, names []string, values []int) int {
	if name == "" {
		return 0
	}
	return values[slices.Index(names, name)]
}

// isTrue returns the truth of a predicate, by its definition.
func isTrue(p api.Pred, names []string, values []int) bool {
	truths := make([]bool, len(p.Kids))
	for i, kid := range p.Kids {
		truths[i] = isTrue(kid, names, values)
	}
	switch p.Kind {
	case api.PrAll:
		return !slices.Contains(truths, false)
	case api.PrSome:
		return slices.Contains(truths, true)
	case api.PrLeast:
		return len(slices.DeleteFunc(truths, func(b bool) bool { return !b })) >= p.C
	}
	return value(p.Left, names, values)-value(p.Right, names, values) <= p.C
}

// assignments returns all lists of n values from 0 to most, in lexicographic order.
func assignments(n, most int) [][]int {
	l := [][]int{{}}
	for range n {
		var longer [][]int
		for _, values := range l {
			for v := range most + 1 {
				longer = append(longer, append(slices.Clone(values), v))
			}
		}
		l = longer
	}
	return l
}

// binds returns values as binds of names.
func binds(names []string, values ...int) []api.Bind {
	var l []api.Bind
	for i, v := range values {
		l = append(l, api.Bind{Name: names[i], Value: v})
	}
	return l
}

// walk visits all nodes of a predicate.
func walk(p api.Pred, visit func(p api.Pred)) {
	visit(p)
	for _, kid := range p.Kids {
		walk(kid, visit)
	}
}

// namesOf returns the names of a predicate, by the definition.
func namesOf(l ...api.Pred) []string {
	var names []string
	for _, p := range l {
		walk(p, func(p api.Pred) {
			if p.Kind == api.PrAtom {
				names = append(names, p.Left, p.Right)
			}
		})
	}
	slices.Sort(names)
	return slices.DeleteFunc(slices.Compact(names), func(s string) bool { return s == "" })
}

// order compares two atoms in their order.
func order(a, b api.Pred) int {
	return cmp.Or(strings.Compare(a.Left, b.Left), strings.Compare(a.Right, b.Right), cmp.Compare(a.C, b.C))
}

// atomsOf returns the different atoms of predicates in ascending order, by the definition.
func atomsOf(l ...api.Pred) []api.Pred {
	var atoms []api.Pred
	for _, p := range l {
		walk(p, func(p api.Pred) {
			if p.Kind == api.PrAtom {
				atoms = append(atoms, p)
			}
		})
	}
	slices.SortFunc(atoms, order)
	return slices.CompactFunc(atoms, equal)
}

// variables returns those of the atoms that are not constant.
func variables(l ...api.Pred) []api.Pred {
	return slices.DeleteFunc(atomsOf(l...), func(a api.Pred) bool { return a.Left == a.Right })
}

// comparisons returns how many comparisons predicates have.
func comparisons(l ...api.Pred) int {
	n := 0
	atoms := variables(l...)
	for i, a := range atoms {
		if !slices.ContainsFunc(atoms[:i], func(b api.Pred) bool { return equal(b, atom(a.Right, a.Left, -a.C-1)) }) {
			n++
		}
	}
	return n
}

// text returns the canonical text of a predicate, by the definition.
func text(p api.Pred) string {
	name := func(s string) string { return strings.Replace(s, ".", " . ", 1) }
	var l []string
	for _, kid := range p.Kids {
		s := text(kid)
		if p.Kind != api.PrLeast && (kid.Kind == api.PrAll || kid.Kind == api.PrSome) {
			s = "( " + s + " )"
		}
		l = append(l, s)
	}
	switch p.Kind {
	case api.PrAll:
		return strings.Join(l, " and ")
	case api.PrSome:
		return strings.Join(l, " or ")
	case api.PrLeast:
		return "at least " + strconv.Itoa(p.C) + " of ( " + strings.Join(l, " , ") + " )"
	}
	left, right := name(p.Left), name(p.Right)
	if left == "" {
		left = "0"
	}
	switch {
	case p.C > 0 && right != "":
		right += " + " + strconv.Itoa(p.C)
	case p.C < 0:
		right = strings.TrimLeft(right+" - "+strconv.Itoa(-p.C), " ")
	case right == "":
		right = strconv.Itoa(p.C)
	}
	return left + " <= " + right
}
