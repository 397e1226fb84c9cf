package purse_test

import (
	"fmt"
	"math/rand/v2"
	"reflect"
	"slices"
	"strings"
	"testing"

	"cloak/api"
	"cloak/base"
	"cloak/purse"
)

// arguments are arguments of all functions.
type arguments struct {
	Setup                api.Setup
	Limits               []api.Limit
	Held                 []api.Held
	Next                 api.Ticket
	Seen                 []api.Ticket
	Text, Terms, Outer   string
	Backup               string
	Limit, Now, Dare, No int
}

// results are the results of all functions.
type results struct {
	Flags        []bool
	Errors       []api.Errno
	Numbers      []int
	Encoded      []string
	Decoded      api.Held
	Links        [][]api.Link
	Spends       []api.Spend
	Items        [][]api.Item
	Recalled     [][]api.Ticket
	Left         []api.Left
	Texts        []string
	Until        int
	Question     string
	RestoredHeld []api.Item
}

// run calls all functions.
func run(x arguments) results {
	p, r := opened(x)
	if p != nil {
		views(p, x, &r)
	}
	return r
}

// opened calls all functions that have no purse, opens one, adds the tickets, and uses two of them.
func opened(x arguments) (*purse.Purse, results) {
	var r results
	for _, h := range x.Held {
		r.Encoded = append(r.Encoded, purse.Encode(h))
		r.Flags = append(r.Flags, purse.Valid(x.Setup, x.Limits, h), purse.Same(h.Ticket, x.Next))
	}
	for _, l := range x.Limits {
		r.Flags = append(r.Flags, purse.ValidLimit(l))
		r.Numbers = append(r.Numbers, purse.Window(l, x.Now), purse.Begins(l, x.Now))
	}
	var ok bool
	r.Decoded, ok = purse.Decode(x.Text)
	r.Flags = append(r.Flags, ok, purse.Narrows(x.Terms, x.Outer))
	r.Until, r.Question, ok = purse.ReadTerms(x.Terms)
	r.Texts = append(r.Texts, purse.Terms(x.Now, x.Terms))
	r.Left = purse.Remainder(x.Held, x.Seen)
	q, e := purse.Restore(base.NewDisk(), x.Setup, x.Limits, x.Backup, x.Now)
	if r.Errors = append(r.Errors, e); q != nil {
		r.RestoredHeld = q.Items()
	}
	p, f := purse.Open(base.NewDisk(), x.Setup, x.Limits)
	r.Errors, r.Flags = append(r.Errors, f), append(r.Flags, ok)
	if p == nil {
		return nil, r
	}
	for _, h := range x.Held {
		r.Errors = append(r.Errors, p.Add(h))
	}
	i, e := p.Reserve(x.Limit, x.Now, x.Dare)
	k, l, f := p.Lend(x.Limit, x.Now, x.Next, x.Terms)
	r.Numbers, r.Errors, r.Links = append(r.Numbers, i, k), append(r.Errors, e, f), append(r.Links, l)
	return p, r
}

// views calls the other functions of a purse.
func views(p *purse.Purse, x arguments, r *results) {
	r.Numbers = append(r.Numbers, p.Left(x.Limit, x.Now))
	r.Texts = append(r.Texts, p.Backup())
	for range 2 {
		for i := range len(x.Held) {
			y, e := p.Answer(i)
			r.Spends, r.Errors = append(r.Spends, y), append(r.Errors, e)
		}
		r.Items = append(r.Items, p.Items())
		r.Errors = append(r.Errors, p.Done(x.No), p.Back(x.No), p.Back(1))
		r.Recalled = append(r.Recalled, p.Recalled())
	}
}

// sample returns arguments with which all functions succeed; they are new memory in each call, and equal.
func sample() arguments {
	r, s := random(), middle()
	x := arguments{Setup: s, Limits: someLimits(), Next: anyTicket(r), Text: "2[1;2;]2[3;4;]3[5;6;7;]1[8;]6[9;10;11;12;13;14;]1;6[15;16;17;18;19;20;]21;2[22;23;]6:9;1:a,,", Terms: "90;4:pool,", Outer: "100;0:,", Now: 20, Limit: 1, Dare: 77}
	for range 3 {
		h := anyHeld(r, s, 1, 0)
		h.Links = []api.Link{{Terms: "100;4:pool,", Spend: api.Spend{Answers: []int{1, 2}}}, {Terms: "90;0:,", Spend: api.Spend{Answers: []int{3}}}}
		h.Links[1].Terms = x.Terms
		x.Held = append(x.Held, h)
	}
	x.Held[2].Limit, x.Held[2].Window = 0, 5
	x.Seen = []api.Ticket{x.Held[1].Ticket}
	x.Backup = backupOf(x.Held...)
	return copied(x)
}

// copied returns a copy of a value that shares no memory with it but strings.
func copied[T any](x T) T {
	v := reflect.New(reflect.TypeFor[T]()).Elem()
	v.Set(reflect.ValueOf(x))
	visit(v, func(v reflect.Value) {
		if v.Kind() == reflect.Slice && v.Len() > 0 {
			l := reflect.MakeSlice(v.Type(), v.Len(), v.Len())
			reflect.Copy(l, v)
			v.Set(l)
		}
	})
	return v.Interface().(T)
}

// visit calls a function for a value, and then for all values in it.
func visit(v reflect.Value, f func(v reflect.Value)) {
	f(v)
	switch v.Kind() {
	case reflect.Struct:
		for i := range v.NumField() {
			visit(v.Field(i), f)
		}
	case reflect.Slice:
		for i := range v.Len() {
			visit(v.Index(i), f)
		}
	}
}

// widen gives each slice in a value two elements beyond its length, of which the first one is not zero.
func widen[T any](x *T) {
	visit(reflect.ValueOf(x).Elem(), func(v reflect.Value) {
		if v.Kind() == reflect.Slice {
			l := reflect.MakeSlice(v.Type(), v.Len()+2, v.Len()+2)
			reflect.Copy(l, v)
			visit(l.Index(v.Len()), func(v reflect.Value) {
				switch v.Kind() {
				case reflect.Int:
					v.SetInt(-77)
				case reflect.String:
					v.SetString("beyond")
				}
			})
			v.Set(l.Slice(0, v.Len()))
		}
	})
}

// whole prints a value with what is beyond the length of its slices.
func whole[T any](x *T) string {
	var b strings.Builder
	visit(reflect.ValueOf(x).Elem(), func(v reflect.Value) {
		switch v.Kind() {
		case reflect.Slice:
			fmt.Fprint(&b, v.Len(), v.Slice(0, v.Cap()))
		case reflect.Struct:
		default:
			fmt.Fprintf(&b, "%q ", fmt.Sprint(v))
		}
	})
	return b.String()
}

// same reports whether two values are equal, where an empty slice may be nil or not.
func same[T any](a, b T) bool {
	a, b = copied(a), copied(b)
	for _, x := range []*T{&a, &b} {
		visit(reflect.ValueOf(x).Elem(), func(v reflect.Value) {
			if v.Kind() == reflect.Slice && v.Len() == 0 {
				v.SetZero()
			}
		})
	}
	return reflect.DeepEqual(a, b)
}

// span is the memory of a slice.
type span struct{ from, to uintptr }

// spans returns the memory of all slices in a value, up to their capacity.
func spans[T any](x *T) []span {
	var l []span
	visit(reflect.ValueOf(x).Elem(), func(v reflect.Value) {
		if v.Kind() == reflect.Slice && v.Cap() > 0 {
			l = append(l, span{v.Pointer(), v.Pointer() + uintptr(v.Cap())*v.Type().Elem().Size()})
		}
	})
	return l
}

// P7.15, P3: arguments are not modified, also not beyond their length, and what is there is not read.
func TestArgumentsAreKept(t *testing.T) {
	x := sample()
	want := run(x)
	for i, e := range want.Errors[:7] {
		if e != api.OK {
			t.Fatal(i, want.Errors)
		}
	}
	if len(want.Links[0]) != 3 || len(want.Recalled[1]) != 1 || len(want.RestoredHeld) != 1 || len(want.Left) != 2 || len(want.Decoded.Links) != 1 || len(want.Items[1]) != 3 || len(want.Spends[1].Answers) != 3 {
		t.Fatal(want)
	}
	widen(&x)
	before := whole(&x)
	if got := run(x); !same(got, want) {
		t.Error(got, want)
	}
	if after := whole(&x); after != before {
		t.Error(before, after)
	}
}

// P7.15, P3: no two slices of results share memory with each other or with arguments.
func TestResultsAreNew(t *testing.T) {
	x := sample()
	widen(&x)
	p, got := opened(x)
	views(p, x, &got)
	again := run(x)
	l := slices.Concat(spans(&x), spans(&got), spans(&again))
	slices.SortFunc(l, func(a, b span) int { return int(a.from) - int(b.from) })
	for i := range l[1:] {
		if l[i].to > l[i+1].from {
			t.Fatal("shared memory")
		}
	}
	if len(l) < 120 {
		t.Error(len(l))
	}
}

// P7.15, P3: what is done to results and arguments does not change what a purse returns later.
func TestPurseKeepsCopies(t *testing.T) {
	x := sample()
	var want, got results
	p, _ := opened(x)
	views(p, x, &want)
	x = sample()
	widen(&x)
	q, first := opened(x)
	views(q, x, &got)
	destroy := func(v reflect.Value) {
		switch v.Kind() {
		case reflect.Int:
			v.SetInt(-1000)
		case reflect.String:
			v.SetString("destroyed")
		}
	}
	kept := sample()
	visit(reflect.ValueOf(&x).Elem(), destroy)
	visit(reflect.ValueOf(&first).Elem(), destroy)
	visit(reflect.ValueOf(&got).Elem(), destroy)
	var later, wanted results
	views(q, kept, &later)
	views(p, kept, &wanted)
	if !same(later, wanted) || len(wanted.Items[0]) != 3 {
		t.Error(later, wanted)
	}
	// Also what is reserved and lent later.
	for _, y := range []*purse.Purse{p, q} {
		if e := y.Add(anyHeld(rand.New(rand.NewPCG(1, 1)), middle(), 1, 0)); e != api.OK {
			t.Error(e)
		}
	}
	i, a, e := p.Lend(1, 0, kept.Next, "9;0:,")
	k, b, f := q.Lend(1, 0, kept.Next, "9;0:,")
	if i != k || e != f || e != api.OK || linksText(a) != linksText(b) {
		t.Error(i, k, a, b)
	}
}

// P4: the same calls have the same results; the disks are equal then, too.
func TestSameCalls(t *testing.T) {
	for range 5 {
		if !same(run(sample()), run(sample())) {
			t.Error("results")
		}
	}
}

// spoil changes one number, text or list in a value, at random.
func spoil[T any](r *rand.Rand, x *T) {
	var all []reflect.Value
	visit(reflect.ValueOf(x).Elem(), func(v reflect.Value) {
		if k := v.Kind(); k == reflect.Int || k == reflect.String || k == reflect.Slice {
			all = append(all, v)
		}
	})
	v := all[r.IntN(len(all))]
	switch v.Kind() {
	case reflect.Int:
		n := ints[r.IntN(len(ints))]
		if r.IntN(3) == 0 {
			n = int(v.Int()) + r.IntN(5) - 2
		}
		v.SetInt(int64(n))
	case reflect.String:
		l := []string{"", "x", "9;0:,", "2147483648;20:xxxxxxxxxxxxxxxxxxxx,", strings.Repeat("y", 5000), v.String() + " ", v.String() + v.String(), v.String()[:v.Len()/2]}
		v.SetString(l[r.IntN(len(l))])
	case reflect.Slice:
		switch n := v.Len(); r.IntN(4) {
		case 0:
			v.SetZero()
		case 1:
			v.Set(v.Slice(0, n/2))
		case 2:
			v.Set(reflect.AppendSlice(v, v))
		case 3:
			v.Set(reflect.Append(v, reflect.Zero(v.Type().Elem())))
		}
	}
}

// P1, P2, P7.15: no arguments lead to a panic, or are modified; the same call has the same result.
func TestAnyArguments(t *testing.T) {
	r := random()
	opens := 0
	for i := range 2000 {
		x := sample()
		switch i % 3 {
		case 0:
			spoil(r, &x)
		case 1:
			spoil(r, &x.Held)
			spoil(r, &x.Limit)
			spoil(r, &x.Now)
			spoil(r, &x.No)
		case 2:
			for range 5 {
				spoil(r, &x)
			}
		}
		before := whole(&x)
		got := run(x)
		if whole(&x) != before {
			t.Fatal(before)
		}
		if i%10 == 0 && !same(got, run(x)) {
			t.Fatal(before)
		}
		if len(got.Items) > 0 {
			opens++
		}
	}
	if opens < 1000 {
		t.Error(opens)
	}
	for _, s := range notSetups() {
		x := sample()
		x.Setup = s
		run(x)
		run(arguments{Setup: s})
	}
	for _, a := range ints {
		for _, b := range ints {
			for _, l := range append(someLimits(), api.Limit{Count: a, Length: b, Gate: a}, api.Limit{Count: 1, Length: b}) {
				purse.ValidLimit(l)
				purse.Window(l, a)
				purse.Begins(l, a)
			}
			purse.Terms(a, fmt.Sprint(b))
			purse.Remainder([]api.Held{{Limit: a, Window: b}}, []api.Ticket{{Mark: a}})
		}
	}
	x := sample()
	p, _ := opened(x)
	for _, a := range ints {
		if _, e := p.Answer(a); e == api.OK && a > 2 {
			t.Error(a)
		}
		p.Done(a)
		p.Back(a)
		for _, b := range ints {
			p.Left(a, b)
			p.Reserve(a, b, a)
			p.Reserve(0, a, b)
			p.Lend(a, b, api.Ticket{Mark: a, R: b}, "9;0:,")
		}
	}
}
