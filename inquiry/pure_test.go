package inquiry_test

import (
	"fmt"
	"math"
	"math/rand/v2"
	"reflect"
	"slices"
	"strings"
	"testing"

	"cloak/api"
	"cloak/inquiry"
)

// arguments are arguments of all functions.
type arguments struct {
	Setup         api.Setup
	Statutes      []api.Statute
	Keys          []int
	Task          api.Task
	Record        api.Record
	Votes         []api.Vote
	Opening       api.Opening
	Text, Minutes string
	Passes        []api.Pass
	Attrs, Log    []int
	Issued        []api.Issue
	Seen          []api.Sight
	Books         api.Books
	Findings      []api.Finding
	Juror, X, K   int
	Gate, No      int
	Reason        string
}

// results are the results of all functions.
type results struct {
	Flags    []bool
	Errors   []api.Errno
	Texts    []string
	Numbers  [][]int
	Votes    []api.Vote
	Openings []api.Opening
	Binds    []api.Bind
	Pred     api.Pred
	Crowd    api.Crowd
	Findings [][]api.Finding
}

// run calls all functions.
func run(x arguments) results {
	var r results
	flag := func(ok bool) { r.Flags = append(r.Flags, ok) }
	fail := func(e api.Errno) { r.Errors = append(r.Errors, e) }
	for _, y := range x.Statutes {
		flag(inquiry.ValidStatute(y))
		r.Numbers = append(r.Numbers, inquiry.Seats(y, x.Juror))
	}
	flag(inquiry.Governs(x.Statutes, x.Task))
	for _, v := range x.Votes {
		r.Texts = append(r.Texts, inquiry.Ballot(v))
		y, ok := inquiry.Cast(x.Setup, x.X, x.K, v)
		r.Votes = append(r.Votes, y)
		flag(ok)
		fail(inquiry.Judge(x.Setup, x.Keys, x.Statutes, x.Task, x.Record, v))
	}
	o, e := inquiry.Open(x.Setup, x.Keys, x.Statutes, x.Task, x.Record, x.Gate, x.No, x.Reason, x.Votes)
	p, ok := inquiry.ReadMinutes(x.Minutes)
	r.Openings = append(r.Openings, o, p)
	fail(e)
	flag(ok)
	flag(inquiry.Confirms(x.Setup, x.Keys, x.Statutes, x.Task, x.Record, x.Votes, x.Opening))
	r.Texts = append(r.Texts, inquiry.Minutes(x.Opening))
	for _, y := range x.Passes {
		l, e := inquiry.Values(y, x.Attrs)
		r.Binds = append(r.Binds, l...)
		fail(e)
	}
	r.Pred, e = inquiry.Predicate(x.Task)
	fail(e)
	c, numbers, e := inquiry.Account(x.Passes, x.Log, x.Issued, x.Seen)
	r.Crowd, r.Numbers = c, append(r.Numbers, numbers)
	fail(e)
	l, e := inquiry.Audit(x.Setup, x.Books)
	fail(e)
	text, ok := inquiry.Report(x.Findings)
	flag(ok)
	again, ok := inquiry.ReadReport(x.Text)
	flag(ok)
	r.Texts, r.Findings = append(r.Texts, text), append(r.Findings, l, again)
	return r
}

// sample returns arguments with which all functions succeed; they are new memory in each call, and equal.
func sample(t *testing.T) arguments {
	t.Helper()
	v := middle().busy(t)
	v.books.Limits[0].Count = 1
	v.books.Grants[0].Count = 2
	v.books.Labels = v.books.Labels[:1]
	u := v.uses[3]
	y := full()
	return copied(arguments{
		Setup: v.s, Statutes: v.books.Statutes, Keys: u.keys, Task: u.task, Record: u.record, Votes: v.books.Votes[3:5], Opening: v.books.Openings[2],
		Text: "charge 1 2\nlimit 3 4\n", Minutes: "3[0;4;7;]5:theft,2[0;2;]9;", Passes: y.keys, Attrs: []int{9, 3, 4}, Log: y.log, Issued: y.issued, Seen: y.seen,
		Books: v.books, Findings: []api.Finding{{Kind: 1, A: 2}, {Kind: 4}}, Juror: 0, X: 5, K: 6, Gate: u.receipt.Gate, No: u.receipt.No, Reason: "theft",
	})
}

// P10.11, P3: arguments are not modified, also not beyond their length, and what is there is not read.
func TestArgumentsAreKept(t *testing.T) {
	x := sample(t)
	want := run(x)
	if slices.Contains(want.Flags, false) || slices.ContainsFunc(want.Errors, func(e api.Errno) bool { return e != api.OK }) || len(want.Findings[0]) != 2 || len(want.Crowd.Uses) != 6 {
		t.Fatal(want)
	}
	widen(&x)
	before := whole(&x)
	if got := run(x); !same(got, want) {
		t.Error(got, want)
	}
	if after := whole(&x); after != before {
		t.Error(before, after)
	}
}

// P10.11, P3: no two slices of results share memory with each other or with arguments.
func TestResultsAreNew(t *testing.T) {
	x := sample(t)
	widen(&x)
	got, again := run(x), run(x)
	l := slices.Concat(spans(&x), spans(&got), spans(&again))
	slices.SortFunc(l, func(a, b span) int { return int(a.from) - int(b.from) })
	for i := range l[1:] {
		if l[i].to > l[i+1].from {
			t.Fatal("shared memory")
		}
	}
	if len(l) < 150 || !same(got, again) {
		t.Error(len(l))
	}
}

// P4, P10.11: the same calls have the same results.
func TestSameCalls(t *testing.T) {
	x := sample(t)
	want := run(x)
	for range 20 {
		if !same(run(x), want) {
			t.Error("results")
		}
	}
}

// P1, P2, P10.11: no arguments lead to a panic, or are modified; the same call has the same result.
func TestAnyArguments(t *testing.T) {
	r := rand.New(rand.NewPCG(10, 10))
	good := sample(t)
	for i := range 900 {
		x := copied(good)
		switch i % 3 {
		case 0:
			spoil(r, &x)
		case 1:
			spoil(r, &x.Votes)
			spoil(r, &x.Record)
			spoil(r, &x.Books)
			spoil(r, &x.Seen)
		case 2:
			for range 5 {
				spoil(r, &x)
			}
		}
		before := whole(&x)
		got := run(x)
		if whole(&x) != before {
			t.Fatal(before)
		}
		if i%10 == 0 && !same(got, run(x)) {
			t.Fatal(before)
		}
	}
	for _, s := range append(notSetups(), tiny().s, large().s) {
		x := copied(good)
		x.Setup = s
		run(x)
		run(arguments{Setup: s})
	}
}

// P1: numbers at which calculations could overflow.
func TestAnyNumbers(t *testing.T) {
	good := sample(t)
	for _, a := range ints {
		for _, b := range []int{math.MinInt, -1, 0, 1, math.MaxInt} {
			x := copied(good)
			x.Juror, x.X, x.K, x.Gate, x.No = a, a, b, a, b
			x.Statutes[0].Quorum, x.Statutes[0].Weights[1] = a, b
			x.Votes[0].Juror, x.Votes[0].Version, x.Votes[0].Points[0] = a, b, api.Point{Juror: a, Share: b, Mask: a}
			x.Votes[1].Sig, x.Keys[0] = api.Signature{C: a, S: b}, a
			x.Opening.Version, x.Opening.Jurors[0], x.Opening.Holder = a, b, a
			x.Attrs[1], x.Log[0], x.Issued[0].Key, x.Issued[1].Session.Attrs[0] = a, b, a, b
			x.Seen[0].Holder, x.Seen[1].Task.Most, x.Task.Version, x.Task.Quorum = a, b, a, b
			x.Books.Grants[0], x.Books.Holders[0] = api.Left{Limit: a, Window: b, Count: a}, b
			x.Books.Openings[0].Version, x.Books.Openings[1].Gate, x.Books.Openings[1].No = a, a, b
			x.Findings[0] = api.Finding{Kind: a, A: b, B: a}
			run(x)
			x = copied(good)
			x.Books.Openings[0].Version, x.Books.Openings[1].Gate, x.Books.Openings[1].No, x.Books.Openings[2].Holder = a, a, b, a
			x.Books.Votes[0].Juror, x.Books.Votes[0].Version, x.Books.Holders[0] = a, b, max(1, b)
			run(x)
		}
	}
}

// copied returns a copy of a value that shares no memory with it but strings.
func copied[T any](x T) T {
	v := reflect.New(reflect.TypeFor[T]()).Elem()
	v.Set(reflect.ValueOf(x))
	visit(v, func(v reflect.Value) {
		if v.Kind() == reflect.Slice && v.Len() > 0 {
			l := reflect.MakeSlice(v.Type(), v.Len(), v.Len())
			reflect.Copy(l, v)
			v.Set(l)
		}
	})
	return v.Interface().(T)
}

// visit calls a function for a value, and then for all values in it.
func visit(v reflect.Value, f func(v reflect.Value)) {
	f(v)
	switch v.Kind() {
	case reflect.Struct:
		for i := range v.NumField() {
			visit(v.Field(i), f)
		}
	case reflect.Slice:
		for i := range v.Len() {
			visit(v.Index(i), f)
		}
	}
}

// widen gives each slice in a value two elements beyond its length, of which the first one is not zero.
func widen[T any](x *T) {
	visit(reflect.ValueOf(x).Elem(), func(v reflect.Value) {
		if v.Kind() == reflect.Slice {
			l := reflect.MakeSlice(v.Type(), v.Len()+2, v.Len()+2)
			reflect.Copy(l, v)
			visit(l.Index(v.Len()), func(v reflect.Value) {
				switch v.Kind() {
				case reflect.Int:
					v.SetInt(-77)
				case reflect.String:
					v.SetString("beyond")
				}
			})
			v.Set(l.Slice(0, v.Len()))
		}
	})
}

// whole prints a value with what is beyond the length of its slices.
func whole[T any](x *T) string {
	var b strings.Builder
	visit(reflect.ValueOf(x).Elem(), func(v reflect.Value) {
		switch v.Kind() {
		case reflect.Slice:
			fmt.Fprint(&b, v.Len(), v.Slice(0, v.Cap()))
		case reflect.Struct:
		default:
			fmt.Fprintf(&b, "%q ", fmt.Sprint(v))
		}
	})
	return b.String()
}

// same reports whether two values are equal, where an empty slice may be nil or not.
func same[T any](a, b T) bool {
	a, b = copied(a), copied(b)
	for _, x := range []*T{&a, &b} {
		visit(reflect.ValueOf(x).Elem(), func(v reflect.Value) {
			if v.Kind() == reflect.Slice && v.Len() == 0 {
				v.SetZero()
			}
		})
	}
	return reflect.DeepEqual(a, b)
}

// span is the memory of a slice.
type span struct{ from, to uintptr }

// spans returns the memory of all slices in a value, up to their capacity.
func spans[T any](x *T) []span {
	var l []span
	visit(reflect.ValueOf(x).Elem(), func(v reflect.Value) {
		if v.Kind() == reflect.Slice && v.Cap() > 0 {
			l = append(l, span{v.Pointer(), v.Pointer() + uintptr(v.Cap())*v.Type().Elem().Size()})
		}
	})
	return l
}

// spoil changes one number, text or list in a value, at random.
func spoil[T any](r *rand.Rand, x *T) {
	var all []reflect.Value
	visit(reflect.ValueOf(x).Elem(), func(v reflect.Value) {
		if k := v.Kind(); k == reflect.Int || k == reflect.String || k == reflect.Slice {
			all = append(all, v)
		}
	})
	v := all[r.IntN(len(all))]
	switch v.Kind() {
	case reflect.Int:
		n := ints[r.IntN(len(ints))]
		if r.IntN(3) == 0 {
			n = int(v.Int()) + r.IntN(5) - 2
		}
		v.SetInt(int64(n))
	case reflect.String:
		l := []string{"", "x", "theft", "alarm", "id", "age", "question q { id.age >= 9 }", strings.Repeat("y", 5000), v.String() + " ", v.String() + v.String(), v.String()[:v.Len()/2]}
		v.SetString(l[r.IntN(len(l))])
	case reflect.Slice:
		switch n := v.Len(); r.IntN(4) {
		case 0:
			v.SetZero()
		case 1:
			v.Set(v.Slice(0, n/2))
		case 2:
			v.Set(reflect.AppendSlice(v, v))
		case 3:
			v.Set(reflect.Append(v, reflect.Zero(v.Type().Elem())))
		}
	}
}
