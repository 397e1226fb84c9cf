package ask_test

import (
	"fmt"
	"math/rand/v2"
	"reflect"
	"slices"
	"strings"
	"testing"

	"cloak/api"
	"cloak/ask"
)

// arguments are one argument of each kind.
type arguments struct {
	P, Q     api.Pred
	Atoms    []api.Pred
	Labels   []api.Pred
	Names    []string
	Binds    []api.Bind
	Choices  []api.Choice
	Cycle    []int
	Contrary []api.Pred
}

// sample returns arguments with which all functions succeed; they are new memory in each call.
func sample() arguments {
	a, b, c := atom("x.a", "", 6), atom("x.b", "x.a", -2), atom("", "x.b", -1)
	return arguments{
		P:        all(some(a, b), least(2, c, a, all(b, some(c, a)))),
		Q:        least(2, a, b, c),
		Atoms:    []api.Pred{atom("x.a", "x.b", -2), atom("", "x.a", -1)},
		Labels:   []api.Pred{some(a, c), b},
		Names:    []string{"x.a", "x.b"},
		Binds:    binds([]string{"x.b", "x.a"}, 3, 5),
		Choices:  []api.Choice{one(a, b), {Need: 2, Atoms: []api.Pred{c, a, b}}},
		Cycle:    []int{0, 1},
		Contrary: []api.Pred{atom("x.a", "x.b", -2), atom("x.b", "x.a", 1)},
	}
}

// results calls all functions, and returns what they return.
func results(x arguments) []any {
	var l []any
	put := func(more ...any) { l = append(l, more...) }
	put(ask.ValidPred(x.P), ask.ValidBinds(x.Binds), ask.Names(x.P), ask.Atoms(x.P), ask.Negate(x.P))
	text, ok := ask.Print("q", x.P)
	put(text, ok)
	name, p, at, e := ask.Parse(text)
	put(name, p, at, e)
	yes, e := ask.Holds(x.P, x.Binds)
	put(yes, e)
	choices, e := ask.Normal(x.P)
	put(choices, e)
	choices, e = ask.Normal(x.Q)
	put(choices, e)
	yes, e = ask.Meets(x.Choices, x.Binds)
	put(yes, e)
	b, ok := ask.Least(x.Atoms, x.Names, 9)
	put(b, ok)
	list, ok := ask.Cycle(x.Contrary, x.Names, 9)
	put(len(list), ok, ask.Contradicts(x.Contrary, x.Names, 9, x.Cycle))
	b, ok, e = ask.Sat(x.P, x.Names, 9)
	put(b, ok, e)
	b, ok, e = ask.Implies(x.P, x.Q, 9)
	put(b, ok, e)
	b, ok, e = ask.Same(x.P, x.Q, 9)
	put(b, ok, e)
	n, e := ask.Count(x.P, x.Names, 9)
	put(n, e)
	b, c, ok, e := ask.Discloses(x.P, x.Labels, 9)
	put(b, c, ok, e)
	return l
}

// slicesOf visits all slices in a value, up to their capacity if whole is true.
func slicesOf(v reflect.Value, whole bool, visit func(v reflect.Value)) {
	switch v.Kind() {
	case reflect.Interface, reflect.Pointer:
		slicesOf(v.Elem(), whole, visit)
	case reflect.Struct:
		for i := range v.NumField() {
			slicesOf(v.Field(i), whole, visit)
		}
	case reflect.Slice:
		visit(v)
		if whole {
			v = v.Slice(0, v.Cap())
		}
		for i := range v.Len() {
			slicesOf(v.Index(i), whole, visit)
		}
	}
}

// extend makes all slices in a value longer by elements that are not valid, but beyond their length.
func extend(v reflect.Value) {
	var all []reflect.Value
	slicesOf(v, false, func(s reflect.Value) { all = append(all, s) })
	for _, s := range all {
		var more reflect.Value
		switch s.Interface().(type) {
		case []api.Pred:
			more = reflect.ValueOf([]api.Pred{{Kind: 77}, {Kind: 78}})
		case []string:
			more = reflect.ValueOf([]string{"beyond", "beyond"})
		case []api.Bind:
			more = reflect.ValueOf([]api.Bind{{Name: "beyond"}, {Value: -5}})
		case []api.Choice:
			more = reflect.ValueOf([]api.Choice{{Need: 77}, {Need: 78}})
		default:
			more = reflect.ValueOf([]int{-77, -78})
		}
		n := s.Len()
		s.Set(reflect.AppendSlice(s, more).Slice(0, n))
	}
}

// whole returns all of a value as a text, up to the capacity of its slices.
func whole(x *arguments) string {
	var b strings.Builder
	slicesOf(reflect.ValueOf(x), true, func(s reflect.Value) { fmt.Fprintf(&b, "%d %#v\n", s.Len(), s.Slice(0, s.Cap())) })
	return fmt.Sprintf("%#v\n", *x) + b.String()
}

// P5.13, P3: arguments are not modified, also not beyond their length, and what is there is not read.
func TestArgumentsAreKept(t *testing.T) {
	want := fmt.Sprintf("%#v", results(sample()))
	x := sample()
	extend(reflect.ValueOf(&x))
	before := whole(&x)
	if !strings.Contains(before, "beyond") || !strings.Contains(before, "-78") || !strings.Contains(before, "Kind:77") {
		t.Fatal(before)
	}
	if got := fmt.Sprintf("%#v", results(x)); got != want {
		t.Error(got, want)
	}
	if after := whole(&x); after != before {
		t.Error(after, before)
	}
}

// P5.13, P3: results share no memory with arguments, with each other, or with later results.
func TestResultsAreNew(t *testing.T) {
	type memory struct{ from, to uintptr }
	var used []memory
	count := 0
	claim := func(s reflect.Value) {
		m := memory{s.Pointer(), s.Pointer() + uintptr(s.Cap())*s.Type().Elem().Size()}
		if m.from == m.to {
			return
		}
		count++
		for _, other := range used {
			if m.from < other.to && other.from < m.to {
				t.Errorf("%v %v: %#v", m, other, s)
			}
		}
		used = append(used, m)
	}
	x := sample()
	extend(reflect.ValueOf(&x))
	slicesOf(reflect.ValueOf(&x), false, claim)
	var kept [][]any
	for range 3 {
		l := results(x)
		list, ok := ask.Cycle(x.Contrary, x.Names, 9)
		l = append(l, list, ok)
		kept = append(kept, l)
		for _, r := range l {
			slicesOf(reflect.ValueOf(r), false, claim)
		}
	}
	if count < 100 {
		t.Error(count)
	}
	if !reflect.DeepEqual(kept[0], kept[1]) || !reflect.DeepEqual(kept[0], kept[2]) {
		t.Error("the results differ")
	}
}

// P5.13, P3: an atom of the arguments may have an empty list of Kids with a capacity. It is no part of results.
func TestKidsOfAtoms(t *testing.T) {
	spare := func() []api.Pred { return make([]api.Pred, 0, 4) }
	a, b := api.Pred{Left: "x.a", C: 1, Kids: spare()}, api.Pred{Left: "x.b", C: 2, Kids: spare()}
	p, q := all(a, some(a, b)), least(2, a, b)
	var l []api.Pred
	for _, list := range [][]api.Pred{ask.Atoms(p), {ask.Negate(p), ask.Negate(q), ask.Negate(a)}} {
		l = append(l, list...)
	}
	for _, x := range []api.Pred{p, q, a} {
		choices, e := ask.Normal(x)
		if e != api.OK || len(choices) == 0 {
			t.Error(choices, e)
		}
		for _, choice := range choices {
			l = append(l, choice.Atoms...)
		}
	}
	for i, x := range l {
		walk(x, func(x api.Pred) {
			if x.Kind == api.PrAtom && cap(x.Kids) > 0 {
				t.Error(i, x)
			}
		})
	}
}

// P1, P2: texts that are no questions. The offset is one of the text.
func TestParseAnything(t *testing.T) {
	r := rand.New(rand.NewPCG(5, 1))
	words := strings.Fields("question q { } ( ) not and or at least 1 2 0 of in x . a .. , < <= = != > >= + - * \"s\" 1099511627776 # ! 01")
	for range 20000 {
		l := strings.Fields("question q { x . a")[:r.IntN(7)]
		l = slices.Clone(l)
		for range r.IntN(12) {
			l = append(l, words[r.IntN(len(words))])
		}
		s := strings.Join(l, []string{" ", "", "\n"}[r.IntN(3)])
		name, p, at, e := ask.Parse(s)
		if e == api.OK && (name == "" || !ask.ValidPred(p) || at != 0) || e != api.OK && (name != "" || !equal(p, api.Pred{}) || at < 0 || at > len(s)) {
			t.Fatal(s, name, p, at, e)
		}
	}
	for _, s := range []string{strings.Repeat("(", 3000), strings.Repeat("not ", 900), strings.Repeat("at least 1 of (", 250), strings.Repeat("\x00", 5000), strings.Repeat("question ", 400), "\xff", strings.Repeat("question q {", 300)} {
		for _, text := range []string{s, "question q {" + s} {
			if name, p, at, e := ask.Parse(text); name != "" || !equal(p, api.Pred{}) || at < 0 || at > len(text) || e == api.OK {
				t.Errorf("%.20q: %d %v", text, at, e)
			}
		}
	}
}
