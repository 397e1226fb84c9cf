package ask_test

import (
	"math/rand/v2"
	"slices"
	"strconv"
	"strings"
	"testing"

	"cloak/api"
	"cloak/ask"
)

// P5.2: what questions denote.
func TestParse(t *testing.T) {
	a, b, c := atom("x.a", "", 1), atom("x.b", "", 2), atom("", "y.c", -3)
	for text, want := range map[string]api.Pred{
		"x.a <= 1":                      a,
		"3 <= y.c":                      c,
		"id . age >= 18":                atom("", "id.age", -18),
		"x.a < 5":                       atom("x.a", "", 4),
		"x.a > 5":                       atom("", "x.a", -6),
		"x.a + 3 <= x.b":                atom("x.a", "x.b", -3),
		"x.a - 3 <= x.b":                atom("x.a", "x.b", 3),
		"x.a <= x.b + 3":                atom("x.a", "x.b", 3),
		"x.a <= x.b - 3":                atom("x.a", "x.b", -3),
		"x.a+9<x.b+4":                   atom("x.a", "x.b", -6),
		"x.a-9>x.b-4":                   atom("x.b", "x.a", -6),
		"x.a-9>=x.b+4":                  atom("x.b", "x.a", -13),
		"x.a < x.a":                     atom("x.a", "x.a", -1),
		"-3 <= x.a":                     atom("", "x.a", 3),
		"-3 > - 7":                      atom("", "", 3),
		"3 < 2":                         atom("", "", -2),
		"0 <= 0":                        atom("", "", 0),
		"- 0 <= x.a - 0":                atom("", "x.a", 0),
		"x.a = 4":                       all(atom("x.a", "", 4), atom("", "x.a", -4)),
		"4 = x.a + 1":                   all(atom("", "x.a", -3), atom("x.a", "", 3)),
		"x.a = x.b":                     all(atom("x.a", "x.b", 0), atom("x.b", "x.a", 0)),
		"x.a != x.b + 2":                some(atom("x.a", "x.b", 1), atom("x.b", "x.a", -3)),
		"x.a != 0":                      some(atom("x.a", "", -1), atom("", "x.a", -1)),
		"x.a in { 4 }":                  all(atom("", "x.a", -4), atom("x.a", "", 4)),
		"x.a in { 4..4 }":               all(atom("", "x.a", -4), atom("x.a", "", 4)),
		"x.a in { 4..9 }":               all(atom("", "x.a", -4), atom("x.a", "", 9)),
		"x.a + 2 in { 3, 5 .. 7, 0 }":   some(all(atom("", "x.a", -1), atom("x.a", "", 1)), all(atom("", "x.a", -3), atom("x.a", "", 5)), all(atom("", "x.a", 2), atom("x.a", "", -2))),
		"x.a - 2 in { 3 }":              all(atom("", "x.a", -5), atom("x.a", "", 5)),
		"-2 in { 3 .. 5 }":              all(atom("", "", -5), atom("", "", 7)),
		"not x.a <= 1":                  atom("", "x.a", -2),
		"not not x.a <= 1":              a,
		"not not not x.a = 4":           some(atom("", "x.a", -5), atom("x.a", "", 3)),
		"not x.a <= 1 and x.b <= 2":     all(atom("", "x.a", -2), b),
		"not ( x.a <= 1 and x.b <= 2 )": some(atom("", "x.a", -2), atom("", "x.b", -3)),
		"not ( x.a <= 1 or x.b <= 2 or 3 <= y.c )":        all(atom("", "x.a", -2), atom("", "x.b", -3), atom("y.c", "", 2)),
		"not ( x.a < 3 and x.b = 1 )":                     some(atom("", "x.a", -3), some(atom("", "x.b", -2), atom("x.b", "", 0))),
		"not at least 1 of ( x.a <= 1, x.b <= 2, 2 < 3 )": least(3, atom("", "x.a", -2), atom("", "x.b", -3), atom("", "", -1)),
		"not at least 2 of ( x.a <= 1, not x.b <= 2 )":    least(1, atom("", "x.a", -2), b),
		"not x.a in { 3, 5 .. 7 }":                        all(some(atom("x.a", "", 2), atom("", "x.a", -4)), some(atom("x.a", "", 4), atom("", "x.a", -8))),
		"((x.a <= 1))":                                    a,
		"( x.a <= 1 ) and x.b <= 2":                       all(a, b),
		"x.a <= 1 and x.b <= 2 or 3 <= y.c":               some(all(a, b), c),
		"3 <= y.c or x.a <= 1 and x.b <= 2":               some(c, all(a, b)),
		"x.a <= 1 and ( x.b <= 2 or 3 <= y.c )":           all(a, some(b, c)),
		"x.a <= 1 and x.b <= 2 and 3 <= y.c":              all(a, b, c),
		"x.a <= 1 and ( x.b <= 2 and 3 <= y.c )":          all(a, all(b, c)),
		"( x.a <= 1 or x.b <= 2 ) or 3 <= y.c":            some(some(a, b), c),
		"x.a <= 1 and x.a <= 1":                           all(a, a),
		"at least 1 of ( x.a <= 1 )":                      least(1, a),
		"at least 2 of(x.a<=1 or x.b<=2,3<=y.c)":          least(2, some(a, b), c),
		"at least 2 of ( x.a <= 1, x.b <= 2 and 3 <= y.c, at least 1 of ( 3 <= y.c ) ) and x.a <= 1": all(least(2, a, all(b, c), least(1, c)), a),
		"x.a <= 1099511627775":                    atom("x.a", "", api.MaxNumber-1),
		"x.a < 1099511627776":                     atom("x.a", "", api.MaxNumber-1),
		"1099511627776 <= x.a":                    atom("", "x.a", -api.MaxNumber),
		"not 1099511627776 <= x.a":                atom("x.a", "", api.MaxNumber-1),
		"x.a - 1099511627776 <= x.b - 1":          atom("x.a", "x.b", api.MaxNumber-1),
		"x.a in { 0 .. 1099511627775 }":           all(atom("", "x.a", 0), atom("x.a", "", api.MaxNumber-1)),
		"x.a + 1 in { 0 .. 1099511627776 }":       all(atom("", "x.a", 1), atom("x.a", "", api.MaxNumber-1)),
		"x.a in { 1099511627775, 1099511627775 }": some(all(atom("", "x.a", 1-api.MaxNumber), atom("x.a", "", api.MaxNumber-1)), all(atom("", "x.a", 1-api.MaxNumber), atom("x.a", "", api.MaxNumber-1))),
	} {
		name, p, at, e := ask.Parse("question adult { " + text + " }")
		if name != "adult" || !equal(p, want) || at != 0 || e != api.OK {
			t.Error(text, name, p, at, e)
		}
	}
	n20 := strings.Repeat("n", api.MaxName)
	for text, want := range map[string]string{"question adult_1{x.a<=1}": "adult_1", "#{\n\tquestion#x\n Q { x # y\n.a<= 1 } # }": "Q", "question x { x.a <= 1 }": "x", "question Question { x.a <= 1 }": "Question", "question " + n20 + " { x.a <= 1 }": n20} {
		if name, p, at, e := ask.Parse(text); name != want || !equal(p, a) || at != 0 || e != api.OK {
			t.Error(text, name, p, at, e)
		}
	}
}

// P5.2: the limits of nodes and levels, and of the text.
func TestParseLimits(t *testing.T) {
	many := func(n int) string { return "question q { " + strings.Repeat("x.a<1 or ", n-1) + "x.a<1 }" }
	deep := func(n int) string {
		return "question q { " + strings.Repeat("at least 1 of (", n-1) + "x.a<1" + strings.Repeat(")", n-1) + " }"
	}
	equals := func(n int) string {
		return "question q { " + strings.Repeat("x.a=1 and ", n-1) + "x.a=1 }"
	}
	brackets := "question q { " + strings.Repeat("(", 1900) + "x.a<1" + strings.Repeat(")", 1900) + " }"
	nots := "question q { " + strings.Repeat("not ", 900) + "x.a<1 }"
	for i, s := range []string{many(99), deep(12), equals(33), brackets, nots, many(2) + strings.Repeat(" ", api.MaxSource-len(many(2)))} {
		if _, p, at, e := ask.Parse(s); !ask.ValidPred(p) || at != 0 || e != api.OK {
			t.Error(i, at, e)
		}
	}
	for i, s := range []string{many(100), many(300), deep(13), deep(200), equals(34), "question q { at least 99 of (" + strings.Repeat("x.a<1,", 98) + "x.a = 1) }", "question q { x.a in {" + strings.Repeat("1,", 33) + "1} }", many(2) + strings.Repeat(" ", api.MaxSource-len(many(2))+1), strings.Repeat("!", api.MaxSource+1)} {
		if name, p, at, e := ask.Parse(s); name != "" || !equal(p, api.Pred{}) || at != 0 || e != api.ErrFull {
			t.Error(i, at, e)
		}
	}
	// All other errors come before ErrFull.
	for i, s := range []string{many(100), deep(13)} {
		for _, more := range []string{" x", " }"} {
			if _, _, at, e := ask.Parse(s + more); at != len(s)+1 || e != api.ErrSyntax {
				t.Error(i, more, at, e)
			}
		}
		s = s[:len(s)-1] + "and 1 <= - 1099511627776 and 1099511627776 <= - 1 }"
		if _, _, at, e := ask.Parse(s); at != strings.Index(s, "1 <= -") || e != api.ErrRange {
			t.Error(i, at, e)
		}
	}
}

// P5.2: errors, where ^ marks the offset, and is not part of the text.
func TestParseErrors(t *testing.T) {
	for _, c := range []struct {
		e api.Errno
		s []string
	}{
		{api.ErrSyntax, []string{
			"^", "# comment^", "  ^", "question^", "question ^", "question q^", "question q {^", "question q { x.a < 1^", "question q { x.a < 1 # }^", "question q { x.a^", "question q { x.a +^", "question q { x.a < -^", "question q { x.a in { 1 ..^", "question q { at^", "question q { not^",
			"^Question q { x.a < 1 }", "^q { x.a < 1 }", "^\"question\" q { x.a < 1 }", "^{ x.a < 1 }", "question ^question { x.a < 1 }", "question ^or { x.a < 1 }", "question ^\"q\" { x.a < 1 }", "question ^7 { x.a < 1 }", "question ^{ x.a < 1 }", "question q ^( x.a < 1 )", "question q ^\"{\" x.a < 1 }", "question q^.r { x.a < 1 }",
			"question q { ^}", "question q { x.a < 1 } ^;", "question q { x.a < 1 } ^}", "question q { x.a < 1 } ^question q { x.a < 1 }", "question q { x.a < 1 ^)", "question q { x.a < 1 ^\"}\"", "question q { x.a < 1 and^", "question q { x.a < 1 and ^}",
			"question q { x.^in < 1 }", "question q { ^in.x < 1 }", "question q { ^of.x < 1 }", "question q { ^and.x < 1 }", "question q { at^.x < 1 }", "question q { not^.x < 1 }", "question q { ^least.x < 1 }", "question q { x ^< 1 }", "question q { x ^}", "question q { x.^1 < 1 }", "question q { x^..a < 1 }", "question q { x.a^.b < 1 }", "question q { x^\".\"a < 1 }", "question q { ^\"x.a\" < 1 }",
			"question q { x.a ^}", "question q { x.a ^and x.b < 1 }", "question q { x.a < 1 ^< 2 }", "question q { x.a ^\"<\" 1 }", "question q { x.a ^: 1 }", "question q { x.a < ^= 1 }", "question q { x.a ^* 2 < 1 }", "question q { x.a + ^x.b < 1 }", "question q { x.a + ^- 1 < 1 }", "question q { x.a + 1 ^+ 1 < 1 }", "question q { - ^x.b < 1 }", "question q { - ^- 1 < 1 }", "question q { ^+ 1 < 1 }", "question q { 1 ^+ 1 < 1 }", "question q { 1 ^. 2 < 1 }", "question q { x.a < ^( 1 ) }", "question q { x.a < ^not 1 }", "question q { x.a < ^\"1\" }", "question q { ( x.a ^) < 1 }", "question q { x.a < 1^..2 }",
			"question q { x.a in ^3 }", "question q { x.a in { ^} }", "question q { x.a in { ^- 1 } }", "question q { x.a in { 1 , ^} }", "question q { x.a in { 1 ^2 } }", "question q { x.a in { 1 .. ^} }", "question q { x.a in { 1 .. 2 ^.. 3 } }", "question q { x.a in { 1 ^. 2 } }", "question q { x.a in { ^x.b } }", "question q { x.a in { 1 ^) }", "question q { x.a in ^( 1 ) }", "question q { x.a ^\"in\" { 1 } }", "question q { x.a in { 1 } ^in { 1 } }", "question q { x.a ^not in { 1 } }",
			"question q { at ^most 1 of ( x.a < 1 ) }", "question q { at least ^of ( x.a < 1 ) }", "question q { at least ^- 1 of ( x.a < 1 ) }", "question q { at least 1 ^( x.a < 1 ) }", "question q { at least 1 of ^{ x.a < 1 } }", "question q { at least 1 of ^x.a < 1 }", "question q { at least 1 of ( ^) }", "question q { at least 1 of ( x.a < 1 , ^) }", "question q { at least 1 of ( x.a < 1 ^; x.b < 1 ) }", "question q { at least 1 of ( x.a < 1 ^}", "question q { ( x.a < 1 ^, x.b < 1 ) }", "question q { at ^\"least\" 1 of ( x.a < 1 ) }",
			"question q { ( ^) }", "question q { ( x.a < 1 ^}", "question q { not ^and }", "question q { ^or x.a < 1 }", "question q { x.a < 1 or ^or x.a < 1 }", "question q { x.a < 1 ^not x.a < 1 }", "question q { x.a < 1 ^( x.a < 1 ) }", "question q { x.a < 1 ^x.a < 1 }", "question q { x.a < 1 ^, x.a < 1 }",
			// An ErrSyntax before an ErrRange.
			"question q { x.a < 1099511627776 and x ^}", "question q { x.a < - ^) or 1099511627776 <= - 1", "question q { x.b - 1 <= - 1099511627776 or^", "question q { x.a - 1099511627776 <= x.b - ^x.c", "question q { x.a - 1099511627776 <= x.b + ^)", "question q { at least 0 of ( x.a < 1 ^}", "question q { at least 3 of ( x.a < 1 , ^) }", "question q { x.a in { 0 .. 1099511627776 ^) }", "question q { x.a in { 0 .. 1099511627776 , ^} }", "question q { x.a in { 5 .. ^} }", "question q { x.a in { 5 ^. 4 } }",
		}},
		{api.ErrRange, []string{
			"question q { ^x.a <= 1099511627776 }", "question q { ^x.a <= 1099511627776 and", "question q { ^x.a <= 1099511627776 1", "question q { not ^x.a <= 1099511627776", "question q { (( ^x.a <= 1099511627776", "question q { x.b < 1 or ^x.a <= 1099511627776", "question q { at least 9 of ( x.a < 1 , ^x.a <= 1099511627776",
			"question q { ^1099511627776 < x.a }", "question q { ^- 1099511627776 <= x.a }", "question q { ^x.a > 1099511627776 }", "question q { ^x.a < - 1099511627776 }", "question q { ^- 1099511627776 >= x.a + 1 }", "question q { ^x.b + 1 <= - 1099511627776 or", "question q { ^x.a >= - 1099511627776 }", "question q { ^x.a + 1099511627776 >= - 1099511627776 }", "question q { ^x.a + 1099511627776 < x.b }", "question q { ^x.a - 1099511627776 <= x.b foo", "question q { ^x.a - 1099511627776 <= x.b", "question q { ^x.a - 1099511627776 <= x.b + 1099511627776", "question q { ^x.a - 1099511627776 <= x.b + 0 . 5", "question q { ^1099511627776 <= - 1099511627776 }", "question q { ^- 1099511627776 <= 1099511627776 }",
			"question q { ^x.a = 1099511627776 }", "question q { ^x.a = - 1099511627776 }", "question q { ^x.a != - 1099511627776 }", "question q { ^x.a != 1099511627776 }", "question q { ^1099511627776 = x.a }",
			"question q { ^x.a in { 0 .. 1099511627776 } or", "question q { ^x.a in { 1099511627776 }", "question q { ^x.a in { 3 , 1099511627776 , 4 }", "question q { ^x.a - 1099511627776 in { 3 }", "question q { ^- 1099511627776 in { 1 }", "question q { ^x.a - 1 in { 1099511627776 }",
			"question q { x.a in { ^5 .. 4 , ) }", "question q { x.a in { ^5 .. 4", "question q { x.a in { 1 , 2 .. 3 , ^1099511627776 .. 0", "question q { x.a in { 0 .. 1099511627776 , ^5 .. 4 } }", "question q { x.a in { ^5 .. 4 , 3 .. 2 } }", "question q { not ( x.a in { ^1 .. 0",
			"question q { ^at least 0 of ( x.a < 1 ) }", "question q { ^at least 2 of ( x.a < 1 )", "question q { ^at least 3 of ( x.a < 1 , x.b < 1 ) or", "question q { ^at least 1099511627776 of ( x.a < 1 , x.b < 1 )", "question q { not ^at least 0 of ( x.a < 1 )", "question q { at least 5 of ( x.a < 1 , ^at least 0 of ( x.b < 1 ) , )", "question q { ^at least 5 of ( x.a < 1 , at least 1 of ( x.b < 1 ) ) }", "question q { at least 1 of ( ^x.a <= 1099511627776 , at least 0 of ( x.b < 1 ) ) }", "question q { at least 0 of ( x.a in { ^2 .. 1 } ) }",
			"question q { x.a < ^01 }", "question q { ^" + strings.Repeat("n", 21) + ".a < 1 }", "question q { x.a < ^1099511627777 }", "or ^00",
		}},
		{api.ErrToken, []string{"^!", "or ^$", "question q { x.a in { 5 .. 4 , ^] }", "question q { x.a <= 1099511627776 } ^_", "x ^é"}},
		{api.ErrForm, []string{"^\"", "or ^\"x\\n\"", "question q { x.a <= 1099511627776 } ^\"x"}},
	} {
		for _, s := range c.s {
			at := strings.Index(s, "^")
			text := strings.ReplaceAll(s, "^", "")
			if name, p, where, e := ask.Parse(text); name != "" || !equal(p, api.Pred{}) || where != at || e != c.e {
				t.Error(s, where, e)
			}
		}
	}
}

// grammar tells how far a text can be derived: it follows all derivations at once, as sets of positions.
type grammar struct {
	tokens []string
	far    int // the greatest position that a derivation has reached
}

// word returns the positions after a token that one of the words is, or if there are none, any name.
func (g *grammar) word(from []int, words ...string) []int {
	var to []int
	for _, at := range from {
		g.far = max(g.far, at)
		if at == len(g.tokens) {
			continue
		}
		s := g.tokens[at]
		name := s[0] >= 'a' && s[0] <= 'z' && !slices.Contains(reserved, s)
		if slices.Contains(words, s) || len(words) == 0 && name {
			to = append(to, at+1)
		}
	}
	return to
}

// repeated returns the positions after one or more parts, with a word between them.
func (g *grammar) repeated(from []int, between string, part func([]int) []int) []int {
	var to []int
	for len(from) > 0 {
		from = part(from)
		to = append(to, from...)
		from = g.word(from, between)
	}
	return to
}

func (g *grammar) some(from []int) []int {
	return g.repeated(from, "or", func(from []int) []int { return g.repeated(from, "and", g.unit) })
}

func (g *grammar) unit(from []int) []int {
	if len(from) == 0 {
		return nil
	}
	to := g.unit(g.word(from, "not"))
	to = append(to, g.word(g.some(g.word(from, "(")), ")")...)
	inner := g.word(g.word(g.word(g.word(g.word(from, "at"), "least"), "1"), "of"), "(")
	if len(inner) > 0 {
		to = append(to, g.word(g.repeated(inner, ",", g.some), ")")...)
	}
	sum := g.sum(from)
	to = append(to, g.sum(g.word(sum, "<", "<=", ">", ">=", "=", "!="))...)
	return append(to, g.word(g.repeated(g.word(g.word(sum, "in"), "{"), ",", g.within), "}")...)
}

func (g *grammar) within(from []int) []int {
	to := g.word(from, "1")
	return append(to, g.word(g.word(to, ".."), "1")...)
}

func (g *grammar) sum(from []int) []int {
	to := append(g.word(from, "1"), g.word(g.word(from, "-"), "1")...)
	name := g.word(g.word(g.word(from), "."))
	to = append(to, name...)
	return append(to, g.word(g.word(name, "+", "-"), "1")...)
}

// error returns the index of the first token that the grammar does not allow, or None.
func (g *grammar) error() int {
	start := g.word(g.word(g.word([]int{0}, "question")), "{")
	ends := g.word(g.some(start), "}")
	for _, at := range ends {
		g.far = max(g.far, at)
	}
	if slices.Contains(ends, len(g.tokens)) {
		return api.None
	}
	return g.far
}

// P5.2: the first token that the grammar does not allow, for all texts that differ in one token from some questions.
func TestParseSyntax(t *testing.T) {
	alphabet := strings.Fields("question and or not at least of in x ( ) { } , ; : . .. = != < <= > >= + - * / 1 \"in\" \"1\"")
	check := func(tokens []string) {
		s := strings.Join(tokens, " ")
		g := grammar{tokens: tokens}
		want, e := 0, api.OK
		if i := g.error(); i >= 0 {
			want, e = len(strings.Join(tokens[:i], " "))+1, api.ErrSyntax
			if i == 0 || i == len(tokens) {
				want = len(strings.Join(tokens[:i], " "))
			}
		}
		if _, _, at, f := ask.Parse(s); at != want || f != e {
			t.Error(s, at, f, want)
		}
	}
	for _, s := range []string{
		"question x { x . x < 1 }",
		"question x { not ( x . x + 1 >= - 1 or - 1 = x . x - 1 ) and not not 1 != 1 }",
		"question x { at least 1 of ( x . x in { 1 , 1 .. 1 } and 1 < 1 , at least 1 of ( 1 in { 1 } ) ) or ( 1 > x . x ) }",
	} {
		tokens := strings.Fields(s)
		check(tokens)
		for i := range len(tokens) + 1 {
			check(tokens[:i])
			for _, word := range alphabet {
				check(slices.Insert(slices.Clone(tokens), i, word))
				if i < len(tokens) {
					check(slices.Concat(tokens[:i], []string{word}, tokens[i+1:]))
					check(slices.Concat(tokens[:i], []string{word}))
				}
			}
			if i < len(tokens) {
				check(slices.Delete(slices.Clone(tokens), i, i+1))
			}
		}
	}
}

// writer writes random questions, and what they denote.
type writer struct{ *rand.Rand }

func (w writer) pick(l ...string) string { return l[w.IntN(len(l))] }

// sum returns a sum, its name and its offset.
func (w writer) sum() (string, string, int) {
	n := w.IntN(1 << (1 + w.IntN(38)))
	digits := strconv.Itoa(n)
	switch name := w.pick("x.a", "x.b", "id.age", "Z_9.q"); w.IntN(5) {
	case 0:
		return digits, "", n
	case 1:
		return "- " + digits, "", -n
	case 2:
		return name, name, 0
	case 3:
		return name + "+" + digits, name, n
	default:
		return name + " - " + digits, name, -n
	}
}

// condition returns a condition and what it denotes.
func (w writer) condition() (string, api.Pred) {
	s, a, c := w.sum()
	if w.IntN(3) == 0 {
		var texts []string
		var kids []api.Pred
		for range 1 + w.IntN(3) {
			m := w.IntN(100)
			n := m + w.IntN(2)*w.IntN(100)
			kids = append(kids, all(atom("", a, c-m), atom(a, "", n-c)))
			text := strconv.Itoa(m)
			if n > m || w.IntN(2) == 0 {
				text += w.pick("..", " .. ") + strconv.Itoa(n)
			}
			texts = append(texts, text)
		}
		s += " in {" + strings.Join(texts, w.pick(",", " , ")) + "}"
		if len(kids) == 1 {
			return s, kids[0]
		}
		return s, some(kids...)
	}
	r, b, d := w.sum()
	sign := w.pick("<", "<=", ">", ">=", "=", "!=")
	s += w.pick(" ", "") + sign + w.pick(" ", "#<\n", "\t") + r
	up, down := atom(a, b, d-c), atom(b, a, c-d)
	less, more := atom(a, b, d-c-1), atom(b, a, c-d-1)
	switch sign {
	case "<":
		return s, less
	case "<=":
		return s, up
	case ">":
		return s, more
	case ">=":
		return s, down
	case "=":
		return s, all(up, down)
	}
	return s, some(less, more)
}

// opposite returns the negation of a predicate, by the definition.
func opposite(p api.Pred) api.Pred {
	if p.Kind == api.PrAtom {
		return atom(p.Right, p.Left, -p.C-1)
	}
	q := api.Pred{Kind: []int{0, api.PrSome, api.PrAll, api.PrLeast}[p.Kind]}
	if p.Kind == api.PrLeast {
		q.C = len(p.Kids) - p.C + 1
	}
	for _, kid := range p.Kids {
		q.Kids = append(q.Kids, opposite(kid))
	}
	return q
}

// unit returns a unit and what it denotes.
func (w writer) unit(depth int) (string, api.Pred) {
	kind := w.IntN(6)
	if depth == 0 || kind > 3 {
		return w.condition()
	}
	if kind == 0 {
		s, p := w.unit(depth - 1)
		return "not " + s, opposite(p)
	}
	if kind == 1 {
		s, p := w.some(depth - 1)
		return "(" + s + ")", p
	}
	n := 1 + w.IntN(3)
	p := least(1 + w.IntN(n))
	var texts []string
	for range n {
		s, kid := w.some(depth - 1)
		texts, p.Kids = append(texts, s), append(p.Kids, kid)
	}
	return "at least " + strconv.Itoa(p.C) + " of (" + strings.Join(texts, ",") + " )", p
}

// some returns alternatives and what they denote.
func (w writer) some(depth int) (string, api.Pred) {
	return w.joined("or", api.PrSome, func() (string, api.Pred) {
		return w.joined("and", api.PrAll, func() (string, api.Pred) { return w.unit(depth) })
	})
}

func (w writer) joined(word string, kind int, part func() (string, api.Pred)) (string, api.Pred) {
	text, p := part()
	if w.IntN(2) > 0 {
		return text, p
	}
	p = api.Pred{Kind: kind, Kids: []api.Pred{p}}
	for range 1 + w.IntN(2) {
		s, kid := part()
		text += " " + word + " " + s
		p.Kids = append(p.Kids, kid)
	}
	return text, p
}

// P5.2, P5.14: random questions. They denote what they are written for, their truth too; and what they denote is the same after printing.
func TestParseRandom(t *testing.T) {
	w := writer{rand.New(rand.NewPCG(5, 2))}
	good := 0
	for range 4000 {
		s, want := w.some(3)
		s = "question q {" + s + "}"
		if len(s) > api.MaxSource {
			continue
		}
		name, p, at, e := ask.Parse(s)
		if !ask.ValidPred(want) {
			if name != "" || !equal(p, api.Pred{}) || at != 0 || e != api.ErrFull {
				t.Error(s, at, e)
			}
			continue
		}
		good++
		if name != "q" || !equal(p, want) || at != 0 || e != api.OK || !ask.ValidPred(p) {
			t.Fatal(s, p, at, e)
		}
		if printed, ok := ask.Print(name, p); ok {
			if name, again, _, e := ask.Parse(printed); name != "q" || !equal(again, p) || e != api.OK {
				t.Error(s, printed, e)
			}
		}
	}
	if good < 1000 {
		t.Error(good)
	}
}
