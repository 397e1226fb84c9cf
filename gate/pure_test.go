package gate_test

import (
	"fmt"
	"math/rand/v2"
	"reflect"
	"slices"
	"strings"
	"testing"

	"cloak/api"
	"cloak/base"
	"cloak/gate"
)

// arguments are arguments of all functions.
type arguments struct {
	Setup                        api.Setup
	Keys                         []int
	Doors                        []api.Door
	Task                         api.Task
	Entry                        api.Entry
	A, B                         []api.Entry
	Charges                      []api.Charge
	Record                       api.Record
	Numbers, Marks, Cycle        []int
	Text, TaskText               string
	Number, Secret, Now, Door    int
	Ask, Dare, Serial, Pub       int
	Drift, Low, High, Other, No  int
	First, Second, Third, Window int
}

// results are the results of all functions.
type results struct {
	Numbers  []int
	Flags    []bool
	Errors   []api.Errno
	Tasks    []api.Task
	Texts    []string
	Entries  []api.Entry
	Logs     [][]api.Entry
	Exposed  []api.Exposure
	Charges  []api.Charge
	Bounds   []api.Bound
	Conflict []int
}

// run calls all functions.
func run(x arguments) results {
	var r results
	pure(x, &r)
	g, e := gate.Open(base.NewDisk(), x.Setup, x.Number, x.Secret, x.Doors)
	if r.Errors = append(r.Errors, e); g != nil {
		work(g, x, &r)
	}
	return r
}

// pure calls all functions but those of a gate.
func pure(x arguments, r *results) {
	r.Numbers = append(r.Numbers, gate.Challenge(x.Setup, x.Number, x.Serial), gate.Key(x.Setup, x.Pub, x.Window))
	for _, d := range x.Doors {
		t, e := gate.Task(x.Setup, d, x.Now, x.Numbers, x.Dare)
		r.Tasks, r.Errors, r.Flags = append(r.Tasks, t), append(r.Errors, e), append(r.Flags, gate.ValidDoor(x.Setup, d))
	}
	r.Texts = append(r.Texts, gate.EncodeTask(x.Task), gate.Encode(x.Entry))
	t, a := gate.DecodeTask(x.TaskText)
	e, b := gate.Decode(x.Text)
	y, c := gate.Seal(x.Setup, x.Secret, x.Entry)
	r.Tasks, r.Entries = append(r.Tasks, t), append(r.Entries, e, y)
	r.Flags = append(r.Flags, a, b, c, gate.Signed(x.Setup, x.Keys, y), gate.Signed(x.Setup, x.Keys, x.Entry))
	r.Logs = append(r.Logs, gate.Join(x.Setup, x.Keys, x.A, x.B), gate.Past(x.Setup, x.Keys, x.A, x.Number))
	l := slices.Concat(x.A, x.B)
	r.Exposed = gate.Exposed(x.Setup, x.Keys, l)
	r.Charges = gate.Charges(x.Setup, x.Keys, x.Doors, l)
	for _, c := range x.Charges {
		r.Flags = append(r.Flags, gate.Charged(x.Setup, x.Keys, x.Doors, c))
	}
	var f api.Errno
	r.Bounds, f = gate.Bounds(x.Setup, x.Keys, x.A, x.Drift)
	r.Conflict = gate.Conflict(x.Setup, x.Keys, l, x.Drift)
	r.Errors = append(r.Errors, f)
	r.Flags = append(r.Flags, gate.Impossible(x.Setup, x.Keys, l, x.Drift, x.Cycle))
}

// work calls all functions of a gate.
func work(g *gate.Gate, x arguments, r *results) {
	r.Errors = append(r.Errors, g.Learn(x.Now, x.Numbers), g.Recall(x.Now, x.Marks), g.Sync(x.Now, x.Low, x.High), g.Hear(x.Now, x.Other, x.No))
	for range 2 {
		no, t, e := g.Ask(x.Now, x.Door)
		r.Numbers, r.Tasks, r.Errors = append(r.Numbers, no), append(r.Tasks, t), append(r.Errors, e)
	}
	y, e := g.Admit(x.Now, x.Ask, x.Record)
	r.Entries, r.Errors = append(r.Entries, y), append(r.Errors, e)
	z, f := g.Admit(x.Now, x.Ask+1, x.Record)
	r.Entries, r.Errors = append(r.Entries, z), append(r.Errors, f)
	r.Logs = append(r.Logs, g.Log(), g.Log())
}

// sample returns arguments with which all functions succeed; they are new memory in each call, and equal.
func sample(t *testing.T) arguments {
	t.Helper()
	r, s := random(), middle()
	x := arguments{
		Setup: s, Keys: keysOf(s, 3), Doors: doors(s), Numbers: []int{77, 5}, Marks: someElements(s, 2), Secret: secretOf(1), Number: 1, Now: 70, Ask: 4, Dare: 26, Serial: 1, Pub: 4, Drift: 100, Low: 3, High: 4, Other: 2, No: 9, Window: 3,
		Text: "4[1;2;3;4;]2[5;6;]1:a,2[7;8;]", TaskText: "5[1;2;3;4;5;]1:a,1[7;]1;1:p,3;2[1:x,1:y,]2[8;9;]",
	}
	g := open(t, base.NewDisk(), s, 1, x.Doors...)
	work(g, x, &results{})
	task := taskOf(g.Log()[4])
	h := lend(s, adult(r, s, secretP, 1, 20), adult(r, s, secretGuest, 1, 21), "90;1:q,")
	x.Task, x.Record = task, shown(t, s, task, h)
	// Another gate has seen the same ticket; it has also signed two entries with one number, and contradicts itself.
	other := open(t, base.NewDisk(), s, 2, x.Doors...)
	no, y := asked(t, other, 70, 0)
	admitted(t, other, s, 70, no, shown(t, s, y, h))
	x.A = append(other.Log(), syncAt(t, 2, 2, 70, 3, 4))
	no, y = asked(t, other, 71, 0)
	x.Entry = x.A[2]
	again := shown(t, s, y, adult(r, s, secretP, 1, 30))
	x.B = append(other.Log(), showing(t, s, 1, 7, x.Record), syncAt(t, 2, no, 75, 2, 2), syncAt(t, 0, 0, 70, 5, 5), syncAt(t, 0, 1, 70, 3, 3), showing(t, s, 2, 5, again))
	l := slices.Concat(x.A, x.B)
	x.Charges = append(gate.Charges(s, x.Keys, x.Doors, l), api.Charge{})
	x.Cycle = gate.Conflict(s, x.Keys, l, x.Drift)
	return copied(x)
}

// copied returns a copy of a value that shares no memory with it but strings.
func copied[T any](x T) T {
	v := reflect.New(reflect.TypeFor[T]()).Elem()
	v.Set(reflect.ValueOf(x))
	visit(v, func(v reflect.Value) {
		if v.Kind() == reflect.Slice && v.Len() > 0 {
			l := reflect.MakeSlice(v.Type(), v.Len(), v.Len())
			reflect.Copy(l, v)
			v.Set(l)
		}
	})
	return v.Interface().(T)
}

// visit calls a function for a value, and then for all values in it.
func visit(v reflect.Value, f func(v reflect.Value)) {
	f(v)
	switch v.Kind() {
	case reflect.Struct:
		for i := range v.NumField() {
			visit(v.Field(i), f)
		}
	case reflect.Slice:
		for i := range v.Len() {
			visit(v.Index(i), f)
		}
	}
}

// widen gives each slice in a value two elements beyond its length, of which the first one is not zero.
func widen[T any](x *T) {
	visit(reflect.ValueOf(x).Elem(), func(v reflect.Value) {
		if v.Kind() == reflect.Slice {
			l := reflect.MakeSlice(v.Type(), v.Len()+2, v.Len()+2)
			reflect.Copy(l, v)
			visit(l.Index(v.Len()), func(v reflect.Value) {
				switch v.Kind() {
				case reflect.Int:
					v.SetInt(-77)
				case reflect.String:
					v.SetString("beyond")
				}
			})
			v.Set(l.Slice(0, v.Len()))
		}
	})
}

// whole prints a value with what is beyond the length of its slices.
func whole[T any](x *T) string {
	var b strings.Builder
	visit(reflect.ValueOf(x).Elem(), func(v reflect.Value) {
		switch v.Kind() {
		case reflect.Slice:
			fmt.Fprint(&b, v.Len(), v.Slice(0, v.Cap()))
		case reflect.Struct:
		default:
			fmt.Fprintf(&b, "%q ", fmt.Sprint(v))
		}
	})
	return b.String()
}

// same reports whether two values are equal, where an empty slice may be nil or not.
func same[T any](a, b T) bool {
	a, b = copied(a), copied(b)
	for _, x := range []*T{&a, &b} {
		visit(reflect.ValueOf(x).Elem(), func(v reflect.Value) {
			if v.Kind() == reflect.Slice && v.Len() == 0 {
				v.SetZero()
			}
		})
	}
	return reflect.DeepEqual(a, b)
}

// span is the memory of a slice.
type span struct{ from, to uintptr }

// spans returns the memory of all slices in a value, up to their capacity.
func spans[T any](x *T) []span {
	var l []span
	visit(reflect.ValueOf(x).Elem(), func(v reflect.Value) {
		if v.Kind() == reflect.Slice && v.Cap() > 0 {
			l = append(l, span{v.Pointer(), v.Pointer() + uintptr(v.Cap())*v.Type().Elem().Size()})
		}
	})
	return l
}

// P8.15, P3: arguments are not modified, also not beyond their length, and what is there is not read.
func TestArgumentsAreKept(t *testing.T) {
	x := sample(t)
	want := run(x)
	if n := len(want.Errors); want.Errors[0]+want.Errors[n-9]+want.Errors[n-2] != api.OK || want.Errors[n-1] != api.ErrCheck || len(want.Exposed) != 1 || len(want.Charges) < 5 || len(want.Bounds) < 3 || len(want.Conflict) < 3 || len(want.Logs[0]) != 9 || len(want.Logs[2]) != 8 {
		t.Fatal(want.Errors, len(want.Exposed), len(want.Charges), len(want.Bounds), want.Conflict, len(want.Logs[0]), len(want.Logs[2]))
	}
	widen(&x)
	before := whole(&x)
	if got := run(x); !same(got, want) {
		t.Error(got, want)
	}
	if after := whole(&x); after != before {
		t.Error(before, after)
	}
}

// P8.15, P3: no two slices of results share memory with each other or with arguments.
func TestResultsAreNew(t *testing.T) {
	x := sample(t)
	widen(&x)
	got, again := run(x), run(x)
	l := slices.Concat(spans(&x), spans(&got), spans(&again))
	slices.SortFunc(l, func(a, b span) int { return int(a.from) - int(b.from) })
	for i := range l[1:] {
		if l[i].to > l[i+1].from {
			t.Fatal("shared memory")
		}
	}
	if len(l) < 250 || !same(got, again) {
		t.Error(len(l))
	}
}

// P8.15, P3: what is done to results and arguments does not change what a gate returns later.
func TestGateKeepsCopies(t *testing.T) {
	x, kept := sample(t), sample(t)
	widen(&x)
	a, _ := gate.Open(base.NewDisk(), x.Setup, x.Number, x.Secret, x.Doors)
	b, _ := gate.Open(base.NewDisk(), kept.Setup, kept.Number, kept.Secret, kept.Doors)
	var got, want results
	work(a, x, &got)
	work(b, kept, &want)
	destroy := func(v reflect.Value) {
		switch v.Kind() {
		case reflect.Int:
			v.SetInt(-1000)
		case reflect.String:
			v.SetString("destroyed")
		}
	}
	visit(reflect.ValueOf(&x).Elem(), destroy)
	visit(reflect.ValueOf(&got).Elem(), destroy)
	kept.Numbers, kept.Marks, kept.Ask = []int{9}, []int{64}, kept.Ask+6
	got, want = results{}, results{}
	work(a, kept, &got)
	work(b, kept, &want)
	if !same(got, want) || len(want.Logs[0]) < 13 {
		t.Error(got, want)
	}
}

// P4: the same calls have the same results.
func TestSameCalls(t *testing.T) {
	for range 5 {
		if !same(run(sample(t)), run(sample(t))) {
			t.Error("results")
		}
	}
}

// spoil changes one number, text or list in a value, at random.
func spoil[T any](r *rand.Rand, x *T) {
	var all []reflect.Value
	visit(reflect.ValueOf(x).Elem(), func(v reflect.Value) {
		if k := v.Kind(); k == reflect.Int || k == reflect.String || k == reflect.Slice {
			all = append(all, v)
		}
	})
	v := all[r.IntN(len(all))]
	switch v.Kind() {
	case reflect.Int:
		n := ints[r.IntN(len(ints))]
		if r.IntN(3) == 0 {
			n = int(v.Int()) + r.IntN(5) - 2
		}
		v.SetInt(int64(n))
	case reflect.String:
		l := []string{"", "x", "9;0:,", zeroRecord(), taskText(api.Task{Dare: 5}), strings.Repeat("y", 5000), v.String() + " ", v.String() + v.String(), v.String()[:v.Len()/2]}
		v.SetString(l[r.IntN(len(l))])
	case reflect.Slice:
		switch n := v.Len(); r.IntN(4) {
		case 0:
			v.SetZero()
		case 1:
			v.Set(v.Slice(0, n/2))
		case 2:
			v.Set(reflect.AppendSlice(v, v))
		case 3:
			v.Set(reflect.Append(v, reflect.Zero(v.Type().Elem())))
		}
	}
}

// signAgain signs all entries of arguments again, whether they have form or not.
func signAgain(x *arguments) {
	sign := func(e *api.Entry) {
		if within(e.Gate, 0, 2) {
			*e = signedWith(middle(), secretOf(e.Gate), 5, *e)
		}
	}
	for i := range x.A {
		sign(&x.A[i])
	}
	for i := range x.B {
		sign(&x.B[i])
	}
	for i := range x.Charges {
		sign(&x.Charges[i].A)
		sign(&x.Charges[i].B)
	}
}

// P1, P2, P8.15: no arguments lead to a panic, or are modified; the same call has the same result.
func TestAnyArguments(t *testing.T) {
	r := random()
	good := sample(t)
	opened := 0
	for i := range 1200 {
		x := copied(good)
		switch i % 4 {
		case 0:
			spoil(r, &x)
		case 1:
			spoil(r, &x.A)
			spoil(r, &x.B)
			spoil(r, &x.Charges)
			signAgain(&x)
		case 2:
			spoil(r, &x.Doors)
			spoil(r, &x.Record)
			spoil(r, &x.Now)
			spoil(r, &x.Cycle)
			spoil(r, &x.Keys)
		case 3:
			for range 5 {
				spoil(r, &x)
			}
		}
		before := whole(&x)
		got := run(x)
		if whole(&x) != before {
			t.Fatal(before)
		}
		if i%10 == 0 && !same(got, run(x)) {
			t.Fatal(before)
		}
		if len(got.Logs) > 2 {
			opened++
		}
	}
	if opened < 500 {
		t.Error(opened)
	}
	for _, s := range append(notSetups(), small(), large()) {
		x := copied(good)
		x.Setup = s
		run(x)
		run(arguments{Setup: s})
	}
}

// P1: numbers at which calculations could overflow.
func TestAnyNumbers(t *testing.T) {
	s := middle()
	keys := keysOf(s, 2)
	g := open(t, base.NewDisk(), s, 1, doors(s)...)
	l := []api.Entry{syncAt(t, 0, 0, 0, 5, 5), syncAt(t, 0, 1, 0, 3, 3)}
	for _, a := range ints {
		g.Admit(a, a, api.Record{})
		gate.Past(s, keys, l, a)
		gate.Seal(s, a, l[0])
		gate.Signed(s, []int{a, a}, l[0])
		gate.Open(base.NewDisk(), s, a, a, nil)
		gate.Charged(s, keys, doors(s), api.Charge{Gate: a, Reason: a, A: l[0], B: l[1]})
		for _, b := range ints {
			gate.Challenge(s, a, b)
			gate.Key(s, a, b)
			gate.Bounds(s, []int{a, b}, l, a)
			gate.Impossible(s, keys, l, 0, []int{a, b})
			gate.Seal(s, 9, api.Entry{Gate: a, No: b, Time: a, Kind: b, Nums: []int{a, b}})
			g.Learn(a, []int{a, b})
			g.Recall(a, []int{b})
			g.Sync(a, b, a)
			g.Hear(0, a, b)
			g.Ask(a, b)
			g.Ask(0, b)
			g.Admit(a, b, api.Record{})
		}
	}
}
