package crowd_test

import (
	"fmt"
	"math/rand/v2"
	"reflect"
	"slices"
	"strings"
	"testing"

	"cloak/api"
	"cloak/crowd"
)

// arguments are arguments of all functions.
type arguments struct {
	Crowd                     api.Crowd
	Use                       api.Seen
	List, Set, Questions, Own []int
	Wishes                    []api.Wish
	Options                   []api.Option
	Number, Member, Other     int
}

// results are the results of all functions.
type results struct {
	Lists   [][]int
	Sets    [][]int
	Flags   []bool
	Numbers []int
	Errors  []api.Errno
}

// run calls all functions.
func run(x arguments) results {
	var r results
	list := func(l []int, ok bool) { r.Lists, r.Flags = append(r.Lists, l), append(r.Flags, ok) }
	r.Flags = append(r.Flags, crowd.ValidCrowd(x.Crowd), crowd.Eligible(x.Crowd, x.Use, x.Member), crowd.Fits(x.Crowd, x.List))
	list(crowd.Assign(x.Crowd, x.List))
	list(crowd.Witness(x.Crowd, x.Number, x.Member))
	list(crowd.Block(x.Crowd, x.Number, x.Other))
	r.Flags = append(r.Flags, crowd.Blocks(x.Crowd, x.Number, x.Other, x.Set), crowd.Keeps(x.Crowd, x.Own, x.Use, x.Wishes))
	r.Lists = append(r.Lists, crowd.Possible(x.Crowd, x.Number), crowd.Named(x.Crowd), crowd.Common(x.Crowd, x.Questions), crowd.Told(x.Crowd, x.Use))
	r.Sets = crowd.Sets(x.Crowd)
	n, e := crowd.Count(x.Crowd)
	shares, f := crowd.Shares(x.Crowd, x.Number)
	why, g := crowd.Explain(x.Crowd, x.Own, x.Use, x.Wishes)
	r.Lists, r.Errors = append(r.Lists, shares, why), append(r.Errors, e, f, g)
	union, ok := crowd.Union(x.Crowd, x.Questions)
	option, found := crowd.Relax(x.Crowd, x.Own, x.Options, x.Wishes)
	r.Numbers, r.Flags = append(r.Numbers, n, union, option), append(r.Flags, ok, found)
	return r
}

// sample returns arguments with which all functions succeed; they are new memory in each call, and equal.
func sample(t *testing.T) arguments {
	t.Helper()
	c := example(t, use(0, 0), use(1, 0), use(1, 1), use(1, 1))
	c.Questions = append(c.Questions, preds(t, "at least 2 of ( x.a = x.b, x.a > 3, not x.b in { 5, 7 .. 9 } )")...)
	c.Members[0].Tickets = []int{1, 2}
	c.Members[2].Tickets = []int{2, 1}
	return copied(arguments{
		Crowd: c, Use: use(0, 0), List: []int{1, 0, 2, 0}, Set: []int{0}, Questions: []int{0, 2}, Own: []int{0, 1},
		Wishes: two(), Options: []api.Option{{Use: use(2, 1), Cost: 4}, {Use: use(0, 0), Cost: 3}, {Use: use(2, 0), Cost: 4}}, Number: 0, Member: 0, Other: 2,
	})
}

// copied returns a copy of a value that shares no memory with it but strings.
func copied[T any](x T) T {
	v := reflect.New(reflect.TypeFor[T]()).Elem()
	v.Set(reflect.ValueOf(x))
	visit(v, func(v reflect.Value) {
		if v.Kind() == reflect.Slice && v.Len() > 0 {
			l := reflect.MakeSlice(v.Type(), v.Len(), v.Len())
			reflect.Copy(l, v)
			v.Set(l)
		}
	})
	return v.Interface().(T)
}

// visit calls a function for a value, and then for all values in it.
func visit(v reflect.Value, f func(v reflect.Value)) {
	f(v)
	switch v.Kind() {
	case reflect.Struct:
		for i := range v.NumField() {
			visit(v.Field(i), f)
		}
	case reflect.Slice:
		for i := range v.Len() {
			visit(v.Index(i), f)
		}
	}
}

// widen gives each slice in a value two elements beyond its length, of which the first one is not zero.
func widen[T any](x *T) {
	visit(reflect.ValueOf(x).Elem(), func(v reflect.Value) {
		if v.Kind() == reflect.Slice {
			l := reflect.MakeSlice(v.Type(), v.Len()+2, v.Len()+2)
			reflect.Copy(l, v)
			visit(l.Index(v.Len()), func(v reflect.Value) {
				switch v.Kind() {
				case reflect.Int:
					v.SetInt(-77)
				case reflect.String:
					v.SetString("beyond")
				}
			})
			v.Set(l.Slice(0, v.Len()))
		}
	})
}

// whole prints a value with what is beyond the length of its slices.
func whole[T any](x *T) string {
	var b strings.Builder
	visit(reflect.ValueOf(x).Elem(), func(v reflect.Value) {
		switch v.Kind() {
		case reflect.Slice:
			fmt.Fprint(&b, v.Len(), v.Slice(0, v.Cap()))
		case reflect.Struct:
		default:
			fmt.Fprintf(&b, "%q ", fmt.Sprint(v))
		}
	})
	return b.String()
}

// same reports whether two values are equal, where an empty slice may be nil or not.
func same[T any](a, b T) bool {
	a, b = copied(a), copied(b)
	for _, x := range []*T{&a, &b} {
		visit(reflect.ValueOf(x).Elem(), func(v reflect.Value) {
			if v.Kind() == reflect.Slice && v.Len() == 0 {
				v.SetZero()
			}
		})
	}
	return reflect.DeepEqual(a, b)
}

// span is the memory of a slice.
type span struct{ from, to uintptr }

// spans returns the memory of all slices in a value, up to their capacity.
func spans[T any](x *T) []span {
	var l []span
	visit(reflect.ValueOf(x).Elem(), func(v reflect.Value) {
		if v.Kind() == reflect.Slice && v.Cap() > 0 {
			l = append(l, span{v.Pointer(), v.Pointer() + uintptr(v.Cap())*v.Type().Elem().Size()})
		}
	})
	return l
}

// P9.11, P3: arguments are not modified, also not beyond their length, and what is there is not read.
func TestArgumentsAreKept(t *testing.T) {
	x := sample(t)
	want := run(x)
	if !slices.Equal(want.Flags, []bool{true, true, true, true, true, true, true, false, true, true}) || !slices.Equal(want.Errors, make([]api.Errno, 3)) {
		t.Fatal(want)
	}
	widen(&x)
	before := whole(&x)
	if got := run(x); !same(got, want) {
		t.Error(got, want)
	}
	if after := whole(&x); after != before {
		t.Error(before, after)
	}
}

// P9.11, P3: no two slices of results share memory with each other or with arguments.
func TestResultsAreNew(t *testing.T) {
	x := sample(t)
	widen(&x)
	got, again := run(x), run(x)
	l := slices.Concat(spans(&x), spans(&got), spans(&again))
	slices.SortFunc(l, func(a, b span) int { return int(a.from) - int(b.from) })
	for i := range l[1:] {
		if l[i].to > l[i+1].from {
			t.Fatal("shared memory")
		}
	}
	if len(l) < 60 || !same(got, again) {
		t.Error(len(l))
	}
}

// P4: the same calls have the same results.
func TestSameCalls(t *testing.T) {
	for range 20 {
		if !same(run(sample(t)), run(sample(t))) {
			t.Error("results")
		}
	}
}

// spoil changes one number, text or list in a value, at random.
func spoil[T any](r *rand.Rand, x *T) {
	var all []reflect.Value
	visit(reflect.ValueOf(x).Elem(), func(v reflect.Value) {
		if k := v.Kind(); k == reflect.Int || k == reflect.String || k == reflect.Slice {
			all = append(all, v)
		}
	})
	v := all[r.IntN(len(all))]
	switch v.Kind() {
	case reflect.Int:
		n := ints[r.IntN(len(ints))]
		if r.IntN(3) == 0 {
			n = int(v.Int()) + r.IntN(5) - 2
		}
		v.SetInt(int64(n))
	case reflect.String:
		l := []string{"", "x", "x.a", "x.b", "x.c", "not.a", v.String() + " ", v.String()[:v.Len()/2]}
		v.SetString(l[r.IntN(len(l))])
	case reflect.Slice:
		switch n := v.Len(); r.IntN(4) {
		case 0:
			v.SetZero()
		case 1:
			v.Set(v.Slice(0, n/2))
		case 2:
			v.Set(reflect.AppendSlice(v, v))
		case 3:
			v.Set(reflect.Append(v, reflect.Zero(v.Type().Elem())))
		}
	}
}

// P1, P2, P9.11: no arguments lead to a panic, or are modified; the same call has the same result, and a result that fails is empty.
func TestAnyArguments(t *testing.T) {
	r := random()
	good := sample(t)
	valid, not := 0, 0
	for i := range 8000 {
		x := copied(good)
		if i%2 == 0 {
			x.Crowd = copied(anyCrowd(t, r))
		}
		for range 1 + i%4 {
			spoil(r, &x)
		}
		before := whole(&x)
		got := run(x)
		if whole(&x) != before {
			t.Fatal(before)
		}
		if i%10 == 0 && !same(got, run(x)) {
			t.Fatal(before)
		}
		if got.Flags[0] {
			valid++
			continue
		}
		not++
		want := results{Lists: make([][]int, 9), Flags: make([]bool, 10), Numbers: []int{0, 0, api.None}, Errors: slices.Repeat([]api.Errno{api.ErrArg}, 3)}
		if !same(got, want) {
			t.Fatal(before, got)
		}
	}
	if valid < 2000 || not < 2000 {
		t.Error(valid, not)
	}
}

// P1: questions that contain themselves, and numbers at which calculations could overflow.
func TestAnyNumbers(t *testing.T) {
	x := sample(t)
	loop := []api.Pred{{Kind: api.PrAll}, {}}
	loop[0].Kids = loop
	x.Crowd.Questions = loop
	if got := run(x); got.Flags[0] {
		t.Error(got)
	}
	for _, a := range ints {
		for _, b := range ints {
			x := sample(t)
			x.Number, x.Member, x.Other, x.Set, x.Own, x.Questions = a, b, b, []int{a, b}, []int{a, b}, []int{a, b}
			x.List = []int{a, b, a, b}
			x.Wishes = []api.Wish{{Question: a, Least: b}}
			x.Options = []api.Option{{Use: seen(a, b, a, b), Cost: a}, {Use: use(0, 0), Cost: b}}
			run(x)
			x.Crowd.Uses[1] = seen(a, b, a, b)
			run(x)
			x.Use = seen(0, a, b, a)
			run(x)
		}
	}
}
