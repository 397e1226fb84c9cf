package inquiry_test

import (
	"strconv"
	"strings"
	"testing"

	"cloak/api"
	"cloak/ask"
	"cloak/inquiry"
)

// P10.6: the document's examples, and others.
func TestValues(t *testing.T) {
	age := api.Pass{Name: "id", Attrs: []string{"age"}}
	both := api.Pass{Name: "id", Attrs: []string{"zone", "age"}, Pub: -5, Guests: []int{0, 0}}
	five := []string{"a", "b", "c", "d", "e"}
	long := strings.Repeat("n", 20)
	for i, c := range []struct {
		p     api.Pass
		attrs []int
		want  []api.Bind
		e     api.Errno
	}{
		{age, []int{9, 20}, []api.Bind{{Name: "id.age", Value: 20}}, api.OK},
		{age, []int{9}, nil, api.ErrArg},
		{age, nil, nil, api.ErrArg},
		{age, []int{-9, 0, -1, 70000}, []api.Bind{{Name: "id.age", Value: 0}}, api.OK},
		{age, []int{9, 65535}, []api.Bind{{Name: "id.age", Value: 65535}}, api.OK},
		{age, []int{9, 65536}, nil, api.ErrRange},
		{age, []int{9, -1}, nil, api.ErrRange},
		{both, []int{1, 5, 4}, []api.Bind{{Name: "id.zone", Value: 5}, {Name: "id.age", Value: 4}}, api.OK},
		{both, []int{1, 5}, nil, api.ErrArg},
		{both, []int{1, 5, -1}, nil, api.ErrRange},
		{both, []int{1, 1 << 40, 3}, nil, api.ErrRange},
		{both, []int{1, -1}, nil, api.ErrArg},
		{api.Pass{Name: "id"}, []int{1}, nil, api.OK},
		{api.Pass{Name: "id"}, nil, nil, api.ErrArg},
		{api.Pass{Name: "in"}, []int{1}, nil, api.OK}, // a valid name, though a reserved word
		{api.Pass{Name: "in", Attrs: []string{"a"}}, []int{1, 2}, nil, api.ErrArg},
		{api.Pass{Name: "id", Attrs: []string{"or"}}, []int{1, 2}, nil, api.ErrArg},
		{api.Pass{Name: "id", Attrs: []string{"a", "not"}}, []int{1, 2, -3}, nil, api.ErrArg},
		{api.Pass{Name: "id", Attrs: []string{""}}, []int{1, 2}, nil, api.ErrArg},
		{api.Pass{Name: "id", Attrs: []string{"a.b"}}, []int{1, 2}, nil, api.ErrArg},
		{api.Pass{Name: "id.a", Attrs: []string{"b"}}, []int{1, 2}, nil, api.ErrArg},
		{api.Pass{Name: "id.a"}, []int{1, 2}, nil, api.ErrArg},
		{api.Pass{Name: "", Attrs: []string{"b"}}, []int{1, 2}, nil, api.ErrArg},
		{api.Pass{Name: ""}, []int{1, 2}, nil, api.ErrArg},
		{api.Pass{Name: "1"}, []int{1, 2}, nil, api.ErrArg},
		{api.Pass{Name: long, Attrs: []string{long}}, []int{1, 2}, []api.Bind{{Name: long + "." + long, Value: 2}}, api.OK},
		{api.Pass{Name: long + "n"}, []int{1, 2}, nil, api.ErrArg},
		{api.Pass{Name: "id", Attrs: []string{long + "n"}}, []int{1, 2}, nil, api.ErrArg},
		{api.Pass{Name: "id", Attrs: []string{"a", "a"}}, []int{1, 2, 2}, nil, api.ErrArg},
		{api.Pass{Name: "id", Attrs: []string{"a", "b", "a"}}, []int{1, 2, 2, 2}, nil, api.ErrArg},
		{api.Pass{Name: "x", Attrs: five}, []int{0, 1, 2, 3, 4, 5}, []api.Bind{{Name: "x.a", Value: 1}, {Name: "x.b", Value: 2}, {Name: "x.c", Value: 3}, {Name: "x.d", Value: 4}, {Name: "x.e", Value: 5}}, api.OK},
		{api.Pass{Name: "x", Attrs: append(five[:5:5], "f")}, []int{0, 1, 2, 3, 4, 5, 6}, nil, api.ErrArg},
	} {
		l, e := inquiry.Values(c.p, c.attrs)
		if e != c.e || !same(l, c.want) {
			t.Error(i, l, e)
		}
		if _, e := valuesOf(c.p, c.attrs); e != c.e {
			t.Error(i, "the definition", e)
		}
	}
}

// question returns the source text of a question.
func question(s string) string { return "question q { " + s + " }" }

// P10.7: the document's example.
func TestPredicateExample(t *testing.T) {
	p, e := inquiry.Predicate(api.Task{Question: question("id.age >= 18"), Most: 100})
	want := api.Pred{Kind: api.PrAll, Kids: []api.Pred{{Right: "id.age", C: -18}, {Left: "id.age", C: 100}}}
	if e != api.OK || !same(p, want) {
		t.Error(p, e)
	}
}

// P10.7: predicates with any names; nothing of the task matters but Question and Most.
func TestPredicate(t *testing.T) {
	for i, s := range []string{
		"id.age >= 18", "id.age < id.zone", "x.b = 1 or x.a = 1", "0 <= 1", "1 <= 0 and 2 < 3", "not x.a in { 1, 3 .. 9 }", "at least 2 of ( x.a < 1, y.a < 2, x.b < y.c )", "x.a <= x.a", "x.a = 5 and x.a <= 7 and x.a >= 3",
	} {
		for _, most := range []int{0, 1, 100, 65535} {
			x := api.Task{Version: -3, Question: question(s), Most: most, Dare: -1, Passes: make([]api.Pass, 3)}
			p, e := inquiry.Predicate(x)
			want, f := predicateOf(x)
			if e != api.OK || f != e || !same(p, want) {
				t.Error(i, p, e)
			}
			_, q, _, _ := ask.Parse(x.Question)
			names := ask.Names(q)
			if len(names) == 0 && !same(p, q) || len(names) > 0 && (len(p.Kids) != 1+len(names) || !same(p.Kids[0], q)) {
				t.Error(i, p)
			}
			// It is true exactly if the question is, and no value is greater than Most.
			for a := range 12 {
				for b := range 3 {
					binds := []api.Bind{{Name: "id.age", Value: 8 * a}, {Name: "id.zone", Value: 50 * b}, {Name: "x.a", Value: a}, {Name: "x.b", Value: b}, {Name: "y.a", Value: 0}, {Name: "y.c", Value: 2}}
					truth, _ := ask.Holds(q, binds)
					for _, v := range binds {
						for _, n := range names {
							truth = truth && (v.Name != n || v.Value <= most)
						}
					}
					if got, e := ask.Holds(p, binds); got != truth || e != api.OK {
						t.Error(i, most, binds, got, e)
					}
				}
			}
		}
	}
}

// P10.7, P2: the first error.
func TestPredicateErrors(t *testing.T) {
	some := func(n int) string { // n nodes without names, and one with a name
		return "( " + strings.TrimSuffix(strings.Repeat("0 <= 1 or ", n), " or ") + " ) and x.a <= 1"
	}
	deep := func(n int) string { // n levels
		s := "x.a <= 1"
		for i := range n - 1 {
			s = "( " + s + " " + []string{"and", "or"}[i%2] + " 0 <= 1 )"
		}
		return s
	}
	many := func(n int) string { // n names
		l := make([]string, n)
		for i := range l {
			l[i] = "x.a" + strconv.Itoa(i) + " <= 1"
		}
		return strings.Join(l, " and ")
	}
	for i, c := range []struct {
		text string
		most int
		e    api.Errno
	}{
		{"", 5, api.ErrSyntax}, {"", -1, api.ErrSyntax}, {question("x.a >= "), -1, api.ErrSyntax}, {question("x.a >= 01"), -1, api.ErrRange}, {question("x.a ! 1"), 70000, api.ErrToken},
		{question("x.a <= 1"), -1, api.ErrRange}, {question("x.a <= 1"), 65536, api.ErrRange}, {question("0 <= 1"), -1, api.ErrRange}, {question("0 <= 1"), 1 << 62, api.ErrRange}, {question("0 <= 1"), 0, api.OK},
		{question(some(95)), 5, api.OK}, {question(some(96)), 5, api.ErrFull}, {question(some(97)), 5, api.ErrFull}, {question(some(96)), -1, api.ErrRange},
		{question(deep(11)), 5, api.OK}, {question(deep(12)), 5, api.ErrFull}, {question(deep(12)), -1, api.ErrRange}, {question(deep(13)), -1, api.ErrFull},
		{question(many(49)), 5, api.OK}, {question(many(50)), 5, api.ErrFull}, {question(many(50)), 65536, api.ErrRange},
		{strings.Repeat(" ", 4001), -1, api.ErrFull},
	} {
		p, e := inquiry.Predicate(api.Task{Question: c.text, Most: c.most})
		if e != c.e || e != api.OK && !same(p, api.Pred{}) || e == api.OK && !ask.ValidPred(p) {
			t.Error(i, len(p.Kids), e)
		}
		if _, f := predicateOf(api.Task{Question: c.text, Most: c.most}); f != e {
			t.Error(i, "the definition", f)
		}
	}
	for _, n := range ints {
		_, e := inquiry.Predicate(api.Task{Question: question("x.a <= 1"), Most: n})
		if want := within(n, 0, 65535); want != (e == api.OK) || !want && e != api.ErrRange {
			t.Error(n, e)
		}
	}
}
