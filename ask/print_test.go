package ask_test

import (
	"slices"
	"strings"
	"testing"

	"cloak/api"
	"cloak/ask"
)

// P5.3
func TestPrint(t *testing.T) {
	a, b, c := atom("x.a", "", 1), atom("x.b", "y.c_1", 2), atom("", "x.c", -3)
	for _, x := range []struct {
		p    api.Pred
		want string
	}{
		{api.Pred{}, "0 <= 0"},
		{atom("", "", 5), "0 <= 5"},
		{atom("", "", -5), "0 <= - 5"},
		{atom("x.a", "", 0), "x . a <= 0"},
		{a, "x . a <= 1"},
		{atom("x.a", "", -1), "x . a <= - 1"},
		{atom("", "x.a", 0), "0 <= x . a"},
		{atom("", "x.a", 7), "0 <= x . a + 7"},
		{c, "0 <= x . c - 3"},
		{b, "x . b <= y . c_1 + 2"},
		{atom("x.b", "x.a", 0), "x . b <= x . a"},
		{atom("x.b", "x.a", -12), "x . b <= x . a - 12"},
		{atom("x.a", "x.a", 0), "x . a <= x . a"},
		{atom("x.a", "", -api.MaxNumber), "x . a <= - 1099511627776"},
		{atom("", "x.a", -api.MaxNumber), "0 <= x . a - 1099511627776"},
		{atom("", "x.a", api.MaxNumber-1), "0 <= x . a + 1099511627775"},
		{all(a, b, c), "x . a <= 1 and x . b <= y . c_1 + 2 and 0 <= x . c - 3"},
		{some(a, a), "x . a <= 1 or x . a <= 1"},
		{all(some(a, c), b), "( x . a <= 1 or 0 <= x . c - 3 ) and x . b <= y . c_1 + 2"},
		{all(a, all(a, c)), "x . a <= 1 and ( x . a <= 1 and 0 <= x . c - 3 )"},
		{some(some(a, c), all(a, c)), "( x . a <= 1 or 0 <= x . c - 3 ) or ( x . a <= 1 and 0 <= x . c - 3 )"},
		{some(least(1, a), c), "at least 1 of ( x . a <= 1 ) or 0 <= x . c - 3"},
		{least(2, all(a, c), some(a, c), least(1, some(a, c)), b), "at least 2 of ( x . a <= 1 and 0 <= x . c - 3 , x . a <= 1 or 0 <= x . c - 3 , at least 1 of ( x . a <= 1 or 0 <= x . c - 3 ) , x . b <= y . c_1 + 2 )"},
		{all(least(1, a), a), "at least 1 of ( x . a <= 1 ) and x . a <= 1"},
	} {
		if s, ok := ask.Print("adult", x.p); s != "question adult { "+x.want+" }" || !ok {
			t.Error(s, ok, x.want)
		}
		if text(x.p) != x.want {
			t.Error("the tests print", text(x.p))
		}
	}
	n20 := strings.Repeat("n", api.MaxName)
	for _, name := range []string{"x", "A_9", "Or", "inn", n20} {
		if s, ok := ask.Print(name, a); s != "question "+name+" { x . a <= 1 }" || !ok {
			t.Error(name, s, ok)
		}
	}
	for _, name := range slices.Concat(reserved, []string{"", " x", "x ", "9", "_x", "x.a", "x-y", "é", "{", n20 + "n"}) {
		if s, ok := ask.Print(name, a); s != "" || ok {
			t.Error(name, s, ok)
		}
	}
	for i, p := range notPreds() {
		if s, ok := ask.Print("x", p); s != "" || ok {
			t.Error(i, s, ok)
		}
	}
}

// P5.3: texts of about MaxSource bytes.
func TestPrintLimit(t *testing.T) {
	n20 := strings.Repeat("n", 20)
	for _, kind := range []int{api.PrAll, api.PrSome, api.PrLeast} {
		for extra, done := 0, false; !done; extra++ {
			p := api.Pred{Kind: kind}
			if kind == api.PrLeast {
				p.C = 1
			}
			for i := range 60 {
				// The names are longer by as many bytes as extra says.
				more := min(max(extra-19*i, 0), 19)
				p.Kids = append(p.Kids, atom(n20[:1+more]+".a", n20+"."+n20, 1))
			}
			want := "question q { " + text(p) + " }"
			done = len(want) > api.MaxSource
			s, ok := ask.Print("q", p)
			if done && (s != "" || ok) || !done && (s != want || !ok) {
				t.Fatal(kind, len(want), len(s), ok)
			}
			if !done && len(want) > api.MaxSource-2 {
				if _, again, _, e := ask.Parse(s); !equal(again, p) || e != api.OK {
					t.Error(kind, len(s), e)
				}
				if s, ok := ask.Print("q12", p); s != "" || ok {
					t.Error(kind, len(s), ok)
				}
			}
		}
	}
}

// P5.14
func TestCanonicalForm(t *testing.T) {
	r := random([]string{"x.a", "id.age", "Z_.z9"}, -5, 5, 0)
	far := random([]string{"x.a", "id.age", "Z_.z9"}, -api.MaxNumber, api.MaxNumber-1, 0)
	for i := range 4000 {
		p := r.pred(1 + i%5)
		if i%3 == 0 {
			p = far.pred(1 + i%4)
		}
		if !ask.ValidPred(p) {
			continue
		}
		s, ok := ask.Print("q", p)
		if want := "question q { " + text(p) + " }"; ok != (len(want) <= api.MaxSource) || ok && s != want {
			t.Fatal(s, want)
		}
		if !ok {
			continue
		}
		if name, again, at, e := ask.Parse(s); name != "q" || !equal(again, p) || at != 0 || e != api.OK {
			t.Fatal(s, at, e)
		}
	}
}
