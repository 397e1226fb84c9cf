package base_test

import (
	"math/rand/v2"
	"slices"
	"strconv"
	"strings"
	"testing"

	"cloak/api"
	"cloak/base"
)

func name(s string, at int) api.Token { return api.Token{Kind: api.TkName, Text: s, Pos: at} }
func sign(s string, at int) api.Token { return api.Token{Kind: api.TkSign, Text: s, Pos: at} }
func text(s string, at int) api.Token { return api.Token{Kind: api.TkString, Text: s, Pos: at} }
func number(n, at int) api.Token {
	return api.Token{Kind: api.TkNumber, Text: strconv.Itoa(n), N: n, Pos: at}
}

// P1.10
func TestScan(t *testing.T) {
	n20, q400 := strings.Repeat("n", api.MaxName), strings.Repeat("q", api.MaxQuoted)
	for _, c := range []struct {
		s    string
		want []api.Token
	}{
		{"", nil},
		{" \t\n", nil},
		{"# only a comment", nil},
		{"#\n#\n", nil},
		{"a#b\n c", []api.Token{name("a", 0), name("c", 5)}},
		{"a # \x80\r!\n1", []api.Token{name("a", 0), number(1, 8)}},
		{"f(2..x<=\"a\")", []api.Token{name("f", 0), sign("(", 1), number(2, 2), sign("..", 3), name("x", 5), sign("<=", 6), text("a", 8), sign(")", 11)}},
		{"aZ_09 x", []api.Token{name("aZ_09", 0), name("x", 6)}},
		{"12ab 0", []api.Token{number(12, 0), name("ab", 2), number(0, 5)}},
		{"1099511627776", []api.Token{number(api.MaxNumber, 0)}},
		{n20, []api.Token{name(n20, 0)}},
		{`"` + q400 + `"`, []api.Token{text(q400, 0)}},
		{`""`, []api.Token{text("", 0)}},
		{`"#"`, []api.Token{text("#", 0)}},
		{`"\"\\"x`, []api.Token{text(`"\`, 0), name("x", 6)}},
		{`"a""b"`, []api.Token{text("a", 0), text("b", 3)}},
		{`"` + strings.Repeat(`\\`, api.MaxQuoted) + `"`, []api.Token{text(strings.Repeat(`\`, api.MaxQuoted), 0)}},
		{"....", []api.Token{sign("..", 0), sign("..", 2)}},
		{"...", []api.Token{sign("..", 0), sign(".", 2)}},
		{"<==", []api.Token{sign("<=", 0), sign("=", 2)}},
		{"=<", []api.Token{sign("=", 0), sign("<", 1)}},
		{">>=!=", []api.Token{sign(">", 0), sign(">=", 1), sign("!=", 3)}},
		{"-1", []api.Token{sign("-", 0), number(1, 1)}},
	} {
		l, at, e := base.Scan(c.s)
		if !slices.Equal(l, c.want) || at != 0 || e != api.OK {
			t.Errorf("%.40q: %v %d %v", c.s, l, at, e)
		}
	}
	for _, s := range []string{"(", ")", "{", "}", ",", ";", ":", ".", "..", "=", "!=", "<", "<=", ">", ">=", "+", "-", "*", "/"} {
		if l, _, e := base.Scan(s); !slices.Equal(l, []api.Token{sign(s, 0)}) || e != api.OK {
			t.Error(s, l, e)
		}
	}
}

// P1.10: each byte by itself, in a quoted string, and after the escape.
func TestScanBytes(t *testing.T) {
	result := func(good bool, other api.Errno) api.Errno {
		if good {
			return api.OK
		}
		return other
	}
	for c := range 256 {
		b := string([]byte{byte(c)})
		if b != `"` {
			begins := strings.Contains("(){},;:.=<>+-*/ \t\n#0123456789abcdefghijklmnopqrstuvwxyzABCDEFGHIJKLMNOPQRSTUVWXYZ", b)
			if _, at, e := base.Scan(b); e != result(begins, api.ErrToken) || at != 0 {
				t.Errorf("%q: %d %v", b, at, e)
			}
			plain := c >= 32 && c <= 126 && b != `\`
			if _, _, e := base.Scan(`"` + b + `"`); e != result(plain, api.ErrForm) {
				t.Errorf("quoted %q: %v", b, e)
			}
		}
		escaped := b == `"` || b == `\`
		if _, _, e := base.Scan(`"\` + b + `"`); e != result(escaped, api.ErrForm) {
			t.Errorf("escaped %q: %v", b, e)
		}
	}
}

// P1.10: the first error from the beginning.
func TestScanErrors(t *testing.T) {
	for _, c := range []struct {
		s  string
		at int
		e  api.Errno
	}{
		{"x 007", 2, api.ErrRange},
		{"00", 0, api.ErrRange},
		{"1099511627777", 0, api.ErrRange},
		{strings.Repeat("9", 3000), 0, api.ErrRange},
		{"a " + strings.Repeat("n", api.MaxName+1) + " !", 2, api.ErrRange},
		{"a ! b", 2, api.ErrToken},
		{"!", 0, api.ErrToken},
		{"a _b 007", 2, api.ErrToken},
		{"a\r", 1, api.ErrToken},
		{"#!\n !", 4, api.ErrToken},
		{"é", 0, api.ErrToken},
		{`"ab`, 0, api.ErrForm},
		{`x "`, 2, api.ErrForm},
		{`x "\`, 2, api.ErrForm},
		{`x "\"`, 2, api.ErrForm},
		{`x "\n" !`, 2, api.ErrForm},
		{"x \"a\n\" !", 2, api.ErrForm},
		{"x \"\x7f\"", 2, api.ErrForm},
		{"x \"é\"", 2, api.ErrForm},
		{`"` + strings.Repeat("q", api.MaxQuoted+1) + `"`, 0, api.ErrForm},
		{`"` + strings.Repeat(`\"`, api.MaxQuoted+1) + `"`, 0, api.ErrForm},
		{"! " + strings.Repeat(" ", api.MaxSource), 0, api.ErrFull},
		{"a !" + strings.Repeat(" ", api.MaxSource-2), 0, api.ErrFull},
		{"a !" + strings.Repeat(" ", api.MaxSource-3), 2, api.ErrToken},
	} {
		if l, at, e := base.Scan(c.s); len(l) != 0 || at != c.at || e != c.e {
			t.Errorf("%.40q: %v %d %v", c.s, l, at, e)
		}
	}
	if _, _, e := base.Scan(strings.Repeat("a ", api.MaxSource/2)); e != api.OK {
		t.Error("the longest text", e)
	}
}

// P1.11
func TestPrint(t *testing.T) {
	for _, c := range []struct {
		l    []api.Token
		want string
	}{
		{nil, ""},
		{[]api.Token{name("a", 9)}, "a"},
		{[]api.Token{name("f", 0), sign("(", 0), number(12, 0), text(`a"b\`, 0), sign(")", 0)}, `f ( 12 "a\"b\\" )`},
		{[]api.Token{name("", 0), name("", 0), text("", 0)}, `  ""`},
		{[]api.Token{{Kind: -1, Text: `"`}, {Kind: 99, Text: "\n"}, {Kind: api.TkString, Text: "\x00\xff\n"}}, "\" \n \"\x00\xff\n\""},
		{[]api.Token{{Kind: api.TkNumber, Text: "x", N: 7}, {Kind: api.TkString, Text: strings.Repeat("q", 500)}}, `x "` + strings.Repeat("q", 500) + `"`},
	} {
		if got := base.Print(c.l); got != c.want {
			t.Errorf("%q, want %q", got, c.want)
		}
	}
	l, _, _ := base.Scan(`f(2..x<="a")`)
	if got := base.Print(l); got != `f ( 2 .. x <= "a" )` {
		t.Error(got)
	}
}

// P1.11
func TestQuote(t *testing.T) {
	for _, c := range []struct {
		s, want string
		ok      bool
	}{
		{"", `""`, true},
		{" ~", `" ~"`, true},
		{`a"b\c`, `"a\"b\\c"`, true},
		{strings.Repeat(`"`, api.MaxQuoted), `"` + strings.Repeat(`\"`, api.MaxQuoted) + `"`, true},
		{strings.Repeat("a", api.MaxQuoted+1), "", false},
		{"\x1f", "", false},
		{"\x7f", "", false},
		{"a\n", "", false},
		{"é", "", false},
		{"\x00", "", false},
	} {
		if got, ok := base.Quote(c.s); got != c.want || ok != c.ok {
			t.Errorf("%.40q: %.40q %v", c.s, got, ok)
		}
	}
}

// P1.12
func TestNameAndNumber(t *testing.T) {
	for s, want := range map[string]bool{"a": true, "Z": true, "aB_9": true, "a_": true, strings.Repeat("a", 20): true, strings.Repeat("a", 21): false, "": false, "_": false, "_a": false, "9a": false, "a b": false, " a": false, "a\n": false, "é": false, "aé": false, "a-b": false, "a.b": false} {
		if got := base.Name(s); got != want {
			t.Errorf("Name %q: %v", s, got)
		}
	}
	for s, want := range map[string]int{"0": 0, "7": 7, "10": 10, "1099511627776": api.MaxNumber} {
		if n, ok := base.Number(s); n != want || !ok {
			t.Errorf("Number %q: %d %v", s, n, ok)
		}
	}
	for _, s := range append([]string{"-1", "1099511627777", "9223372036854775807", "1 ", "1a", "\n1", strings.Repeat("1", 5000)}, notDigits...) {
		if n, ok := base.Number(s); n != 0 || ok {
			t.Errorf("Number %q: %d %v", s, n, ok)
		}
	}
}

// pieces are parts of texts: tokens, blanks, comments, and what is no token.
func pieces() []string {
	return []string{"a", "x_1", "0", "12", "007", `"q"`, `"\""`, `"`, `\`, "!", "!=", "<", "<=", "=", ".", "..", "(", ")", "-", "/", " ", " ", "\n", "\n", "\t", "# c", "#\n", "\x00", strings.Repeat("n", 12), `"a b"`, "1099511627776"}
}

// randomText joins random pieces; if it is tame, none that are errors by themselves.
func randomText(r *rand.Rand, tame bool) string {
	var b strings.Builder
	l := pieces()
	for range r.IntN(12) {
		p := l[r.IntN(len(l))]
		if tame && strings.Contains(" 007 ! \\ \" \x00 ", " "+p+" ") {
			p = " "
		}
		b.WriteString(p)
	}
	return b.String()
}

// noPos returns tokens without their positions.
func noPos(l []api.Token) []api.Token {
	l = slices.Clone(l)
	for i := range l {
		l[i].Pos = 0
	}
	return l
}

// P1.20
func TestPrintAndScanAgain(t *testing.T) {
	r := rand.New(rand.NewPCG(1, 4))
	good := 0
	for range 20000 {
		s := randomText(r, true)
		l, _, e := base.Scan(s)
		if e != api.OK {
			continue
		}
		good++
		printed := base.Print(l)
		again, at, e := base.Scan(printed)
		if e != api.OK || at != 0 || !slices.Equal(noPos(again), noPos(l)) || base.Print(again) != printed {
			t.Fatalf("%q is printed as %q", s, printed)
		}
	}
	if good < 10000 {
		t.Error("few texts were scanned:", good)
	}
}

// P1.21: two texts in two lines.
func TestScanLines(t *testing.T) {
	r := rand.New(rand.NewPCG(2, 4))
	for i := range 20000 {
		s, u := randomText(r, i%4 > 0), randomText(r, i%3 > 0)
		first, at, e := base.Scan(s)
		second, after, f := base.Scan(u)
		both, where, g := base.Scan(s + "\n" + u)
		switch {
		case e != api.OK:
			if len(both) != 0 || where != at || g != e {
				t.Fatalf("%q, %q: %d %v, not %d %v", s, u, where, g, at, e)
			}
			if _, _, e := base.Scan(s[:at]); e != api.OK {
				t.Fatalf("%q before the error is no text: %v", s[:at], e)
			}
		case f != api.OK:
			if len(both) != 0 || where != len(s)+1+after || g != f {
				t.Fatalf("%q, %q: %d %v", s, u, where, g)
			}
		default:
			for i := range second {
				second[i].Pos += len(s) + 1
			}
			if want := append(first, second...); g != api.OK || !slices.Equal(both, want) {
				t.Fatalf("%q, %q: %v, want %v", s, u, both, want)
			}
		}
	}
}

// P1.22
func TestScanQuoted(t *testing.T) {
	r := rand.New(rand.NewPCG(3, 4))
	for i := range 5000 {
		b := make([]byte, r.IntN(i%api.MaxQuoted+1))
		for k := range b {
			b[k] = byte(32 + r.IntN(95))
			if r.IntN(4) == 0 {
				b[k] = `"\# `[r.IntN(4)]
			}
		}
		q, ok := base.Quote(string(b))
		l, _, e := base.Scan(q)
		if !ok || e != api.OK || !slices.Equal(l, []api.Token{text(string(b), 0)}) {
			t.Fatalf("%q: %q %v", b, q, e)
		}
	}
}

// P1.13, P4: arguments are unchanged, results are new, and the same call has the same result.
func TestLexerLeavesArguments(t *testing.T) {
	l, _, _ := base.Scan(`a "b" 3`)
	before := slices.Clone(l)
	if base.Print(l[:2]) != `a "b"` || !slices.Equal(l, before) {
		t.Error("Print changed its argument, or read beyond it")
	}
	l[0].Text = "changed"
	again, _, _ := base.Scan(`a "b" 3`)
	if !slices.Equal(again, before) {
		t.Error("a result is shared")
	}
}

// P1: Scan terminates without a panic for all bytes.
func TestScanAnything(t *testing.T) {
	r := rand.New(rand.NewPCG(4, 4))
	for range 20000 {
		b := make([]byte, r.IntN(20))
		for i := range b {
			b[i] = byte(r.IntN(256))
		}
		if l, at, e := base.Scan(string(b)); e != api.OK && len(l) != 0 || at < 0 || at > len(b) || e == api.OK && at != 0 {
			t.Fatalf("%q: %v %d %v", b, l, at, e)
		}
	}
}
