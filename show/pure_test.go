package show_test

import (
	"fmt"
	"math/rand/v2"
	"reflect"
	"slices"
	"strings"
	"testing"

	"cloak/api"
	"cloak/show"
)

// arguments are arguments of all functions.
type arguments struct {
	Setup         api.Setup
	Mirror        api.Mirror
	Task          api.Task
	From, To      []api.Held
	Coins         api.Coins
	Jurors        []int
	Record        api.Record
	Seed, Text    string
	Number, Blind int
	Shares, Masks []int
	Commit, Count int
	Escrow        []int
	Points        []api.Point
	Part          []int
}

// results are the results of all functions.
type results struct {
	Width         int
	Ready, Fits   api.Errno
	Binds         []api.Bind
	Goal          []api.Clause
	Context       string
	Record        api.Record
	Points        []api.Point
	Tossed        api.Coins
	Check         api.Errno
	Explained     api.Coins
	Witness       [2]int
	Escrow        []int
	Dealt         []api.Point
	Accepted      bool
	Opened, Blind int
	Text          string
	Decoded       api.Record
	Errors        [4]api.Errno
	Flags         [5]bool
}

// run calls all functions.
func run(x arguments) results {
	var r results
	r.Width = show.Width(x.Task.Most)
	r.Ready = show.Ready(x.Setup, x.Task)
	r.Fits = show.Fits(x.Setup, x.Task, x.From)
	r.Binds, r.Flags[0] = show.Binds(x.Task, x.From)
	r.Goal, r.Errors[0] = show.Goal(x.Setup, x.Task, x.Record)
	r.Context = show.Context(x.Task, x.Record)
	r.Record, r.Points, r.Errors[1] = show.Show(x.Setup, x.Task, x.From, x.Coins)
	r.Tossed, r.Errors[2] = show.Toss(x.Setup, x.Task, x.From, x.Seed)
	r.Check = show.Check(x.Setup, x.Task, x.Record)
	r.Explained, r.Flags[1] = show.Explain(x.Setup, x.Mirror, x.Task, x.From, x.Coins, x.To, x.Jurors)
	r.Witness = [2]int{show.Witness(x.Setup.Group.Q, x.Number, x.Part), show.Update(x.Setup.Group.Q, x.Blind, x.Number, x.Part)}
	r.Escrow, r.Dealt, r.Flags[2] = show.Deal(x.Setup, x.Number, x.Blind, x.Shares, x.Masks, x.Count)
	r.Accepted = len(x.Points) > 0 && show.CheckPoint(x.Setup, x.Commit, x.Escrow, x.Points[0])
	r.Opened, r.Blind, r.Errors[3] = show.Open(x.Setup, x.Commit, x.Escrow, x.Points)
	r.Text, r.Flags[3] = show.Encode(x.Record)
	r.Decoded, r.Flags[4] = show.Decode(x.Text)
	return r
}

// sample returns arguments with which all functions succeed; they are new memory in each call, and equal.
func sample(t *testing.T) arguments {
	t.Helper()
	w := middle()
	task := w.task("id.age >= 6 or job.age = 3")
	task.Passes = append(task.Passes, api.Pass{Name: "job", Pub: w.key(8), Attrs: w.attrNames(), Guests: []int{w.key(6), w.key(5)}})
	from := []api.Held{w.held(6, 7, 6, 0), w.lend(w.held(8, 1, 2, 3), w.held(5, 7, 0, 4), "terms")}
	x := arguments{Setup: w.s, Mirror: w.m, Task: task, From: from, Coins: w.coins(task, from), Jurors: []int{4, 2}, Seed: "seed", Number: 7, Blind: 9, Shares: []int{5, 6}, Masks: []int{1, 2}, Count: 4, Part: []int{3, 8}}
	x.To = []api.Held{w.alias(t, task, from[0], 8, 1, 1), w.alias(t, task, from[1], 8, 3, 9)}
	x.Record, x.Points, _ = show.Show(w.s, task, from, x.Coins)
	x.Text, _ = show.Encode(x.Record)
	x.Commit, x.Escrow = x.Record.Commits[2], slices.Clone(x.Record.Escrow)
	return copiedValue(x)
}

// copiedValue returns a copy of a value that shares no memory with it but strings.
func copiedValue[T any](x T) T {
	v := reflect.New(reflect.TypeFor[T]()).Elem()
	v.Set(reflect.ValueOf(x))
	visit(v, func(v reflect.Value) {
		if v.Kind() == reflect.Slice && v.Len() > 0 {
			l := reflect.MakeSlice(v.Type(), v.Len(), v.Len())
			reflect.Copy(l, v)
			v.Set(l)
		}
	})
	return v.Interface().(T)
}

// visit calls a function for a value, and then for all values in it.
func visit(v reflect.Value, f func(v reflect.Value)) {
	f(v)
	switch v.Kind() {
	case reflect.Struct:
		for i := range v.NumField() {
			visit(v.Field(i), f)
		}
	case reflect.Slice, reflect.Array:
		for i := range v.Len() {
			visit(v.Index(i), f)
		}
	}
}

// widen gives each slice in a value two elements beyond its length.
func widen[T any](x *T) {
	visit(reflect.ValueOf(x).Elem(), func(v reflect.Value) {
		if v.Kind() == reflect.Slice {
			l := reflect.MakeSlice(v.Type(), v.Len()+2, v.Len()+2)
			reflect.Copy(l, v)
			switch v.Type().Elem().Kind() {
			case reflect.Int:
				l.Index(v.Len()).SetInt(-77)
				l.Index(v.Len() + 1).SetInt(1)
			case reflect.String:
				l.Index(v.Len()).SetString("beyond")
			}
			v.Set(l.Slice(0, v.Len()))
		}
	})
}

// whole prints a value with what is beyond the length of its slices.
func whole[T any](x *T) string {
	var b strings.Builder
	visit(reflect.ValueOf(x).Elem(), func(v reflect.Value) {
		switch v.Kind() {
		case reflect.Slice:
			fmt.Fprint(&b, v.Len(), v.Slice(0, v.Cap()))
		case reflect.Struct, reflect.Array:
		default:
			fmt.Fprint(&b, v, " ")
		}
	})
	return b.String()
}

// span is the memory of a slice.
type span struct{ from, to uintptr }

// spans returns the memory of all slices in a value, up to their capacity.
func spans[T any](x *T) []span {
	var l []span
	visit(reflect.ValueOf(x).Elem(), func(v reflect.Value) {
		if v.Kind() == reflect.Slice && v.Cap() > 0 {
			l = append(l, span{v.Pointer(), v.Pointer() + uintptr(v.Cap())*v.Type().Elem().Size()})
		}
	})
	return l
}

// P6.13, P3: arguments are not modified, also not beyond their length, and what is there is not read.
func TestArgumentsAreKept(t *testing.T) {
	x := sample(t)
	want := run(x)
	if want.Ready+want.Fits+want.Check != api.OK || want.Errors != [4]api.Errno{} || want.Flags != [5]bool{true, true, true, true, true} || !want.Accepted {
		t.Fatal(want)
	}
	widen(&x)
	before := whole(&x)
	if got := run(x); !same(got, want) {
		t.Error(got, want)
	}
	if after := whole(&x); after != before {
		t.Error(before, after)
	}
}

// P6.13, P3: no two slices of results share memory with each other or with arguments.
func TestResultsAreNew(t *testing.T) {
	x := sample(t)
	widen(&x)
	got := run(x)
	again := run(x)
	l := slices.Concat(spans(&x), spans(&got), spans(&again))
	slices.SortFunc(l, func(a, b span) int { return int(a.from) - int(b.from) })
	for i := range l[1:] {
		if l[i].to > l[i+1].from {
			t.Fatal("shared memory")
		}
	}
	if len(l) < 1000 || !same(got, again) {
		t.Error(len(l))
	}
	// What is done to results does not change later ones.
	visit(reflect.ValueOf(&got).Elem(), func(v reflect.Value) {
		if v.Kind() == reflect.Int {
			v.SetInt(-1000)
		}
	})
	if third := run(x); !same(third, again) {
		t.Error(third)
	}
}

// spoil changes one number, text or list in a value, at random.
func spoil[T any](r *rand.Rand, x *T) {
	var all []reflect.Value
	visit(reflect.ValueOf(x).Elem(), func(v reflect.Value) {
		if k := v.Kind(); k == reflect.Int || k == reflect.String || k == reflect.Slice {
			all = append(all, v)
		}
	})
	v := all[r.IntN(len(all))]
	switch v.Kind() {
	case reflect.Int:
		n := hostile[r.IntN(len(hostile))]
		if r.IntN(3) == 0 {
			n = int(v.Int()) + r.IntN(5) - 2
		}
		v.SetInt(int64(n))
	case reflect.String:
		l := []string{"", "x", "id.age", "question q { id.age < 3 and job.age > id.age }", "question q { at least 2 of (id.age < 1, id.town > 3, job.age < 9) }", strings.Repeat("y", 5000), v.String() + " ", v.String() + v.String()}
		v.SetString(l[r.IntN(len(l))])
	case reflect.Slice:
		switch n := v.Len(); r.IntN(5) {
		case 0:
			v.Set(reflect.Zero(v.Type()))
		case 1:
			v.Set(v.Slice(0, n/2))
		case 2:
			v.Set(reflect.AppendSlice(v, v))
		case 3:
			v.Set(reflect.Append(v, reflect.Zero(v.Type().Elem())))
		case 4:
			for range 7 {
				if v.Len() < 300 {
					v.Set(reflect.AppendSlice(v, v))
				}
			}
		}
	}
}

// P1, P6.13: no arguments lead to a panic, or are modified; the same call has the same result.
func TestAnyArguments(t *testing.T) {
	r := rand.New(rand.NewPCG(6, 6))
	good := sample(t)
	ready := 0
	for i := range 1500 {
		x := copiedValue(good)
		// First of all where it is not found at once that something is wrong.
		switch i % 4 {
		case 0:
			spoil(r, &x)
		case 1:
			spoil(r, &x.Task)
		case 2:
			spoil(r, &x.From)
			spoil(r, &x.Jurors)
			spoil(r, &x.Record.Links)
		case 3:
			for range 6 {
				spoil(r, &x)
			}
		}
		if i%5 == 0 {
			spoil(r, &x.Escrow)
			spoil(r, &x.Points)
			spoil(r, &x.Shares)
		}
		before := whole(&x)
		got := run(x)
		if whole(&x) != before {
			t.Fatal(before)
		}
		if i%10 == 0 && !same(got, run(x)) {
			t.Fatal(before)
		}
		if got.Ready == api.OK {
			ready++
		}
	}
	if ready < 500 || ready > 1450 {
		t.Error(ready)
	}
	for _, s := range append(notSetups(), api.Setup{}, bare().s, large().s) {
		x := copiedValue(good)
		x.Setup = s
		run(x)
		run(arguments{Setup: s})
	}
}
