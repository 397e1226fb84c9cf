package purse_test

import (
	"math"
	"slices"
	"strings"
	"testing"

	"cloak/purse"
)

// P7.4: the document's examples, and the bounds of times and names. The name of a question need not be a valid name.
func TestTerms(t *testing.T) {
	name := strings.Repeat("x", 20)
	for i, c := range []struct {
		until    int
		question string
		want     string
	}{
		{100, "pool", "100;4:pool,"}, {0, "", "0;0:,"}, {1 << 31, "", "2147483648;0:,"}, {5, name, "5;20:" + name + ","}, {7, "3:a,", "7;4:3:a,,"}, {7, "\x00 \xff", "7;3:\x00 \xff,"},
		{-1, "pool", ""}, {1<<31 + 1, "pool", ""}, {5, name + "x", ""}, {math.MinInt, "", ""}, {math.MaxInt, "", ""}, {5, strings.Repeat("x", 100000), ""},
	} {
		s := purse.Terms(c.until, c.question)
		until, question, ok := purse.ReadTerms(s)
		if s != c.want || ok != (s != "") || ok && (until != c.until || question != c.question) || !ok && (until != 0 || question != "") {
			t.Error(i, s, until, question, ok)
		}
	}
}

// notTerms are strings that are no terms.
var notTerms = []string{
	"", " ", "x", "100;", "100;4:pool", "100;4:pool,x", "100;4:pool,,", "100;4:pool,0:,", " 100;4:pool,", "100;5:pool,", "100;3:pool,", "0100;4:pool,", "-1;4:pool,", "-0;4:pool,", "+1;4:pool,", "100;04:pool,", "100;-1:pool,", "4:pool,", "100;100;4:pool,", "2147483649;0:,", "9223372036854775807;0:,", "9223372036854775808;0:,", "5;21:xxxxxxxxxxxxxxxxxxxxx,", "5;9223372036854775807:,", "1[5;]0:,",
}

// P7.4
func TestNotTerms(t *testing.T) {
	for _, s := range notTerms {
		if until, question, ok := purse.ReadTerms(s); ok || until != 0 || question != "" {
			t.Error(s, until, question)
		}
		for _, other := range []string{s, "100;0:,", "100;4:pool,", "2147483648;0:,", "0;0:,"} {
			if purse.Narrows(s, other) || purse.Narrows(other, s) {
				t.Error(s, other)
			}
		}
	}
}

// P7.4, P7.22: Narrows, by the definition; it is a partial order on terms.
func TestNarrows(t *testing.T) {
	type term struct {
		until    int
		question string
	}
	var terms []term
	for _, until := range []int{0, 1, 90, 100, 110, 1<<31 - 1, 1 << 31} {
		for _, question := range []string{"", "a", "b", "ab", "pool", strings.Repeat("x", 20)} {
			terms = append(terms, term{until, question})
		}
	}
	var all []string
	for _, a := range terms {
		all = append(all, purse.Terms(a.until, a.question))
		for _, b := range terms {
			want := a.until <= b.until && (b.question == "" || a.question == b.question)
			if purse.Narrows(purse.Terms(a.until, a.question), purse.Terms(b.until, b.question)) != want {
				t.Error(a, b)
			}
		}
	}
	if !purse.Narrows("90;4:pool,", "100;0:,") || purse.Narrows("110;4:pool,", "100;0:,") || purse.Narrows("90;0:,", "100;4:pool,") {
		t.Error("examples")
	}
	less := make([][]bool, len(all))
	for i, a := range all {
		for k, b := range all {
			less[i] = append(less[i], purse.Narrows(a, b))
			if less[i][k] && purse.Narrows(b, a) != (a == b) {
				t.Error("antisymmetric", a, b)
			}
		}
		if !less[i][i] || slices.Index(all, a) != i {
			t.Error("reflexive", a)
		}
	}
	for i := range all {
		for k := range all {
			for n := range all {
				if less[i][k] && less[k][n] && !less[i][n] {
					t.Error("transitive", all[i], all[k], all[n])
				}
			}
		}
	}
}
