package proof_test

import (
	"math"
	"math/rand/v2"
	"slices"
	"strconv"
	"strings"
	"testing"

	"cloak/api"
	"cloak/base"
	"cloak/proof"
)

// equalProofs compares proofs, where an empty slice may be nil or not.
func equalProofs(a, b api.Proof) bool {
	lists := func(a, b [][]int) bool { return slices.EqualFunc(a, b, slices.Equal[[]int]) }
	return lists(a.Dares, b.Dares) && slices.EqualFunc(a.Answers, b.Answers, lists)
}

// P3.11
func TestEncode(t *testing.T) {
	for _, x := range []struct {
		p    api.Proof
		want string
	}{
		{api.Proof{}, "1[0;]"},
		{api.Proof{Dares: [][]int{{}}, Answers: [][][]int{nil}}, "2[1;0;]"},
		{api.Proof{Dares: [][]int{{7}}, Answers: [][][]int{{nil}}}, "4[1;1;7;0;]"},
		{api.Proof{Dares: [][]int{{4, -1}, nil}, Answers: [][][]int{{{5, 6}, nil}, nil}}, "9[2;2;4;2;5;6;-1;0;0;]"},
		{api.Proof{Dares: [][]int{nil, {math.MinInt}}, Answers: [][][]int{{}, {{math.MaxInt}}}}, "6[2;0;1;-9223372036854775808;1;9223372036854775807;]"},
	} {
		s, ok := proof.Encode(x.p)
		p, read := proof.Decode(x.want)
		if !ok || s != x.want || !read || !equalProofs(p, x.p) {
			t.Error(x, s, ok, p, read)
		}
	}
	for _, p := range []api.Proof{
		{Dares: [][]int{{1}}},
		{Answers: [][][]int{{{1}}}},
		{Dares: [][]int{nil}},
		{Answers: [][][]int{nil}},
		{Dares: [][]int{{1}, nil}, Answers: [][][]int{{{}}}},
		{Dares: [][]int{{1}}, Answers: [][][]int{{}}},
		{Dares: [][]int{{1}}, Answers: [][][]int{{{1}, {2}}}},
		{Dares: [][]int{{1}, {1, 2}}, Answers: [][][]int{{nil}, {nil}}},
		{Dares: [][]int{{1, 2}, {1}}, Answers: [][][]int{{nil}, {nil, nil}}},
	} {
		if s, ok := proof.Encode(p); ok || s != "" {
			t.Error(p, s, ok)
		}
	}
}

// randomProof returns a proof of any form.
func randomProof(r *rand.Rand) api.Proof {
	var p api.Proof
	for range r.IntN(4) {
		var dares []int
		var answers [][]int
		for range r.IntN(4) {
			dares = append(dares, ints[r.IntN(len(ints))])
			var l []int
			for range r.IntN(4) {
				l = append(l, ints[r.IntN(len(ints))])
			}
			answers = append(answers, l)
		}
		p.Dares, p.Answers = append(p.Dares, dares), append(p.Answers, answers)
	}
	return p
}

// P3.11, P3.20: reading inverts writing.
func TestDecodeProofs(t *testing.T) {
	r := random()
	for range 2000 {
		p := randomProof(r)
		s, ok := proof.Encode(p)
		read, done := proof.Decode(s)
		if !ok || !done || !equalProofs(read, p) {
			t.Fatal(p, s, read, done)
		}
		for _, wrong := range []string{s + "0;", s + "1[0;]", s[:len(s)-1], " " + s, "0" + s, base.Text(s)} {
			if q, ok := proof.Decode(wrong); ok || !equalProofs(q, api.Proof{}) {
				t.Fatal(wrong, q)
			}
		}
	}
}

// P3.11, P3.20: for all short lists of small numbers, Decode returns a proof exactly if it is the one that leads to this list.
func TestDecodeAll(t *testing.T) {
	encoded := map[string]bool{}
	numbers := []int{-1, 0, 1, 2, 3}
	for n := range 7 {
		for _, x := range tuples(len(numbers), n) {
			l := make([]int, n)
			for i := range l {
				l[i] = numbers[x[i]]
			}
			want := isEncoding(l)
			s := base.Nums(l)
			p, ok := proof.Decode(s)
			if ok != want || !ok && !equalProofs(p, api.Proof{}) {
				t.Fatal(l, p, ok)
			}
			if again, _ := proof.Encode(p); ok && again != s {
				t.Fatal(l, p, again)
			}
			encoded[s] = ok
		}
	}
	if len(encoded) != (5*5*5*5*5*5*5-1)/4 {
		t.Error(len(encoded))
	}
}

// isEncoding reports whether numbers are those of a proof.
func isEncoding(l []int) bool {
	next := func() int {
		if len(l) == 0 {
			return math.MinInt
		}
		n := l[0]
		l = l[1:]
		return n
	}
	clauses := next()
	for range max(clauses, 0) {
		claims := next()
		if claims < 0 {
			return false
		}
		for range claims {
			if next() == math.MinInt {
				return false
			}
			answers := next()
			if answers < 0 || answers > len(l) {
				return false
			}
			l = l[answers:]
		}
	}
	return clauses >= 0 && len(l) == 0
}

// P3.11, P1: lengths that are not those of what follows.
func TestDecodeFailures(t *testing.T) {
	for _, s := range []string{
		"", "x", "0[]", "1[1;]", "2[0;0;]", "1[-1;]", "2[5;0;]", "2[1;-1;]", "4[1;1;7;-1;]", "4[1;1;7;1;]", "5[1;1;7;0;0;]", "4[1;2;7;0;]", "3[1;1;7;]", "3[2;0;]", "1[0]", "1[0;", "1[00;]", "01[0;]", "1[-0;]", "1[0;] ",
		"1[9223372036854775807;]", "2[1;9223372036854775807;]", "4[1;1;7;9223372036854775807;]", "4[1;1;7;-9223372036854775808;]", "1[9223372036854775808;]", "9223372036854775807[0;]",
	} {
		if p, ok := proof.Decode(s); ok || !equalProofs(p, api.Proof{}) {
			t.Error(s, p, ok)
		}
	}
	// Each of many clauses promises more than there is.
	many := "30001[30000;" + strings.Repeat("30000;", 30000) + "]"
	if p, ok := proof.Decode(many); ok || !equalProofs(p, api.Proof{}) {
		t.Error(ok)
	}
	none := "30001[30000;" + strings.Repeat("0;", 30000) + "]"
	if p, ok := proof.Decode(none); !ok || len(p.Dares) != 30000 {
		t.Error(ok)
	}
	large := api.Proof{Dares: [][]int{make([]int, 1000)}, Answers: [][][]int{make([][]int, 1000)}}
	for i := range large.Answers[0] {
		large.Answers[0][i] = slices.Repeat([]int{i}, 100)
	}
	if s, ok := proof.Encode(large); !ok || !strings.HasPrefix(s, strconv.Itoa(2+1000*102)+"[1;1000;0;100;0;") {
		t.Error(ok)
	} else if p, ok := proof.Decode(s); !ok || !equalProofs(p, large) {
		t.Error(ok)
	}
}
