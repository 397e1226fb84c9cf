package ask_test

import (
	"math"
	"slices"
	"testing"

	"cloak/api"
	"cloak/ask"
)

// notBinds are not valid.
var notBinds = [][]api.Bind{{{}}, {{Name: "x"}}, {{Name: "x.a"}, {Name: "x.a"}}, {{Name: "x.a", Value: -1}}, {{Name: "x.a", Value: api.MaxValue + 1}}, {{Name: "x.a", Value: math.MinInt}}, {{Name: "x.a"}, {Name: "x.b"}, {Name: "x.of"}}}

// P5.5
func TestHolds(t *testing.T) {
	l := binds([]string{"x.b", "x.a", "w.w"}, 7, 4, 0)
	for text, want := range map[string]bool{
		"x.a < x.b": true, "x.a + 2 < x.b": true, "x.a + 3 < x.b": false, "x.a + 3 = x.b": true, "x.a <= x.b - 4": false, "x.b - 4 <= 3": true, "x.b - 5 <= 1": false,
		"x.a in { 1..3, 5 }": false, "x.b in { 1..3, 7 }": true, "w.w = 0": true, "w.w < 0": false, "0 <= 0": true, "1 <= 0": false, "x.a <= x.a": true, "x.a < x.a": false,
		"x.a = 4 and x.b = 7": true, "x.a = 4 and x.b = 6": false, "x.a = 3 or x.b = 7": true, "x.a = 3 or x.b = 6": false, "not ( x.a > 3 and x.b > 7 )": true,
		"at least 2 of ( x.a > 3, x.b > 7, x.a != x.b )": true, "at least 3 of ( x.a > 3, x.b > 7, x.a != x.b )": false, "at least 1 of ( x.a < 3, x.b > 7 )": false, "at least 2 of ( x.a = 4, x.a = 4, x.a = 5 )": true,
		"x.b < 1099511627776": true, "x.b > 1099511627775": false,
	} {
		if got, e := ask.Holds(pred(t, text), l); got != want || e != api.OK {
			t.Error(text, got, e)
		}
	}
	names := []string{"x.a", "x.b", "x.c"}
	r := random(names, -4, 4, 0)
	for range 300 {
		p := r.pred(4)
		for _, values := range assignments(3, 3) {
			if got, e := ask.Holds(p, binds(names, values...)); got != isTrue(p, names, values) || e != api.OK {
				t.Fatal(text(p), values, got, e)
			}
		}
	}
	if got, e := ask.Holds(atom("x.a", "x.b", -api.MaxValue), binds(names, 0, api.MaxValue)); !got || e != api.OK {
		t.Error(got, e)
	}
}

// P5.5
func TestHoldsErrors(t *testing.T) {
	l := binds([]string{"x.a", "x.b"}, 4, 7)
	for _, text := range []string{"x.c < 9", "9 < x.c", "x.a < 9 or x.c < 9", "x.a > 9 and x.c < 9", "x.a < x.c", "x.c < x.a", "x.c <= x.c", "at least 1 of ( x.a < 9, at least 1 of ( x.b < 9, x.c < 9 ) )", "X.a < 9"} {
		if got, e := ask.Holds(pred(t, text), l); got || e != api.ErrNone {
			t.Error(text, got, e)
		}
		for i, bad := range notBinds {
			if got, e := ask.Holds(pred(t, text), bad); got || e != api.ErrArg {
				t.Error(text, i, got, e)
			}
		}
	}
	if got, e := ask.Holds(pred(t, "x.a < 9"), nil); got || e != api.ErrNone {
		t.Error(got, e)
	}
	if got, e := ask.Holds(pred(t, "1 < 9"), nil); !got || e != api.OK {
		t.Error(got, e)
	}
	for i, bad := range notBinds {
		if got, e := ask.Holds(pred(t, "1 < 9"), bad); got || e != api.ErrArg {
			t.Error(i, got, e)
		}
	}
	for i, p := range notPreds() {
		if got, e := ask.Holds(p, l); got || e != api.ErrArg {
			t.Error(i, got, e)
		}
	}
}

// P5.7
func TestMeets(t *testing.T) {
	l := binds([]string{"x.b", "x.a"}, 3, 1)
	yes, no, also, lacks := atom("x.a", "", 1), atom("x.b", "", 2), atom("x.a", "x.b", -2), atom("x.a", "x.c", 9)
	choice := func(need int, atoms ...api.Pred) api.Choice { return api.Choice{Need: need, Atoms: atoms} }
	wrong := []api.Pred{{Kind: api.PrAll}, all(yes, yes), least(1, yes), {Kind: -1}, {Kind: api.PrKinds}, atom("x", "", 1), atom("", "or.x", 1), atom("x.a", "", api.MaxNumber), atom("x.a", "", -api.MaxNumber-1), {Left: "x.a", Kids: []api.Pred{yes}}, endless(api.PrLeast)}
	for i, x := range []struct {
		l    []api.Choice
		want bool
		e    api.Errno
	}{
		{nil, true, api.OK},
		{[]api.Choice{choice(1, yes)}, true, api.OK},
		{[]api.Choice{choice(1, no)}, false, api.OK},
		{[]api.Choice{choice(1, yes, no)}, true, api.OK},
		{[]api.Choice{choice(1, no, yes), choice(1, also)}, true, api.OK},
		{[]api.Choice{choice(1, yes), choice(1, no)}, false, api.OK},
		{[]api.Choice{choice(1, no), choice(1, yes)}, false, api.OK},
		{[]api.Choice{choice(2, yes, no)}, false, api.OK},
		{[]api.Choice{choice(2, yes, no, also)}, true, api.OK},
		{[]api.Choice{choice(3, yes, no, also)}, false, api.OK},
		{[]api.Choice{choice(3, yes, also, yes, no)}, true, api.OK},
		{[]api.Choice{choice(1)}, false, api.OK},
		{[]api.Choice{choice(0)}, true, api.OK},
		{[]api.Choice{choice(0, no)}, true, api.OK},
		{[]api.Choice{choice(-3, no), choice(math.MinInt)}, true, api.OK},
		{[]api.Choice{choice(math.MaxInt, yes)}, false, api.OK},
		{[]api.Choice{choice(1, atom("", "", 0), atom("x.b", "x.b", -1))}, true, api.OK},
		{[]api.Choice{choice(2, atom("", "", 0), atom("x.b", "x.b", -1))}, false, api.OK},
		{[]api.Choice{choice(1, atom("x.a", "", api.MaxNumber-1)), choice(1, atom("", "x.a", -api.MaxNumber))}, false, api.OK},
		{[]api.Choice{choice(1, lacks)}, false, api.ErrNone},
		{[]api.Choice{choice(1, yes, lacks)}, false, api.ErrNone},
		{[]api.Choice{choice(0, lacks)}, false, api.ErrNone},
		{[]api.Choice{choice(1, no), choice(1, yes), choice(1, atom("x.c", "x.c", 0))}, false, api.ErrNone},
		{[]api.Choice{choice(1, yes), choice(1, atom("x.c", "", 0), yes)}, false, api.ErrNone},
	} {
		if got, e := ask.Meets(x.l, l); got != x.want || e != x.e {
			t.Error(i, got, e)
		}
		for k, p := range wrong {
			more := slices.Concat([]api.Choice{choice(0, yes, p)}, x.l)
			if got, e := ask.Meets(more, l); got || e != api.ErrArg {
				t.Error(i, k, got, e)
			}
			more = slices.Concat(x.l, []api.Choice{choice(1, lacks, p)})
			if got, e := ask.Meets(more, l); got || e != api.ErrArg {
				t.Error(i, k, got, e)
			}
		}
		for k, bad := range notBinds {
			if got, e := ask.Meets(x.l, bad); got || e != api.ErrArg {
				t.Error(i, k, got, e)
			}
		}
	}
	long := slices.Repeat([]api.Choice{choice(200, slices.Repeat([]api.Pred{yes, no}, 200)...)}, 300)
	if got, e := ask.Meets(long, l); !got || e != api.OK {
		t.Error(got, e)
	}
}
