package inquiry_test

import (
	"math"
	"math/big"
	"regexp"
	"slices"
	"strings"
	"testing"

	"cloak/api"
	"cloak/inquiry"
)

// P10.10: the document's example, and all kinds.
func TestReportExample(t *testing.T) {
	s, ok := inquiry.Report([]api.Finding{{Kind: api.FiCharge, A: 2, B: 3}, {Kind: api.FiExposed, A: 9}})
	if !ok || s != "charge 2 3\nexposed 9 0\n" {
		t.Error(s, ok)
	}
	s, ok = inquiry.Report([]api.Finding{{Kind: api.FiOpening, A: 10}, {Kind: api.FiLimit, A: 2, B: 10}, {Kind: api.FiLabel, B: 6}, {Kind: api.FiLabel, B: 6}})
	if !ok || s != "opening 10 0\nlimit 2 10\nlabel 0 6\nlabel 0 6\n" {
		t.Error(s, ok)
	}
	if s, ok := inquiry.Report(nil); !ok || s != "" {
		t.Error(s, ok)
	}
	if l, ok := inquiry.ReadReport(""); !ok || len(l) > 0 {
		t.Error(l, ok)
	}
}

// P10.10: findings that cannot be reported.
func TestNoReport(t *testing.T) {
	good := api.Finding{Kind: api.FiLimit, A: 1, B: 2}
	for _, n := range ints {
		for _, x := range []api.Finding{{Kind: n}, {A: n}, {B: n}} {
			for _, l := range [][]api.Finding{{x}, {good, x}, {x, good}} {
				want := within(x.Kind, 0, 4) && x.A >= 0 && x.B >= 0
				if s, ok := inquiry.Report(l); ok != want || !ok && s != "" || ok && strings.Count(s, "\n") != len(l) {
					t.Error(l, s, ok)
				}
			}
		}
	}
}

// P10.10, P10.18: reports of any findings are read again.
func TestReport(t *testing.T) {
	w := middle()
	number := func() int { return max(0, ints[w.IntN(len(ints))]) }
	for range 500 {
		var l []api.Finding
		for range w.IntN(6) {
			l = append(l, api.Finding{Kind: w.IntN(5), A: number(), B: number()})
		}
		s, ok := inquiry.Report(l)
		back, is := inquiry.ReadReport(s)
		if !ok || !is || !slices.Equal(back, l) {
			t.Fatal(l, s, back)
		}
	}
}

// isReport reports whether a text is a report.
func isReport(s string) bool {
	if !regexp.MustCompile(`^(?:(?:charge|exposed|label|limit|opening) (?:0|[1-9][0-9]*) (?:0|[1-9][0-9]*)\n)*$`).MatchString(s) {
		return false
	}
	for _, digits := range regexp.MustCompile(`[0-9]+`).FindAllString(s, -1) {
		if n, _ := new(big.Int).SetString(digits, 10); n.Cmp(big.NewInt(math.MaxInt)) > 0 {
			return false
		}
	}
	return true
}

// P10.10, P10.18: exactly the reports are read, and what was read has this report.
func TestReadReport(t *testing.T) {
	check := func(s string) bool {
		t.Helper()
		l, ok := inquiry.ReadReport(s)
		if ok != isReport(s) || !ok && len(l) > 0 {
			t.Fatalf("%q %v %v", s, l, ok)
		}
		if again, is := inquiry.Report(l); ok && (!is || again != s) {
			t.Fatalf("%q %q", s, again)
		}
		return ok
	}
	good := "charge 2 3\nexposed 90 0\nlabel 0 6\nlimit 7 10\nopening 3 0\n"
	for _, s := range []string{
		"charge 1 2", "charge 1  2\n", "charge  1 2\n", "charge 1 2 \n", " charge 1 2\n", "charge 01 2\n", "charge 1 02\n", "charge 00 2\n", "charge +1 2\n", "charge -1 2\n", "charge 1 -2\n", "charge -0 2\n",
		"charges 1 2\n", "Charge 1 2\n", "1 2\n", " 1 2\n", "charge 1\n", "charge 1 2 3\n", "\n", "\n\n", "charge 1 2\n\n", "\ncharge 1 2\n", "charge 1 2\r\n", "charge\t1 2\n", "charge 1 2\nlabel 1 1", "charge 1 2\n\x00",
		"charge 9223372036854775808 0\n", "charge 0 9223372036854775808\n", "charge 99999999999999999999999 0\n", "charge 1_0 2\n", "charge 0x1 2\n", "charge 1.0 2\n", "opening a 0\n", "charge 1 2\ncharge 1 2", "charge  \n", "charge １ 2\n",
	} {
		if check(s) {
			t.Errorf("%q", s)
		}
	}
	for _, s := range []string{good, good + good, "charge 9223372036854775807 9223372036854775807\n", "opening 0 0\n"} {
		if !check(s) {
			t.Errorf("%q", s)
		}
	}
	w := middle()
	read := 0
	for range 20000 {
		s := []byte(good)
		for range 1 + w.IntN(2) {
			i, b := w.IntN(len(s)), "0123456789 \n-cx"[w.IntN(15)]
			switch w.IntN(3) {
			case 0:
				s[i] = b
			case 1:
				s = slices.Insert(s, i, b)
			case 2:
				s = slices.Delete(s, i, i+1)
			}
		}
		if check(string(s)) {
			read++
		}
	}
	if read < 1000 {
		t.Error(read)
	}
}
