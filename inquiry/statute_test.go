package inquiry_test

import (
	"slices"
	"strings"
	"testing"

	"cloak/api"
	"cloak/inquiry"
)

// names returns n valid names in ascending order.
func names(n int) []string {
	var l []string
	for i := range n {
		l = append(l, string(rune('a'+i)))
	}
	return l
}

// P10.1: the document's examples.
func TestStatuteExamples(t *testing.T) {
	x := api.Statute{Reasons: []string{"theft"}, Quorum: 2, Weights: []int{1, 0, 2}}
	for j, want := range [][]int{{1}, nil, {2, 3}, nil} {
		if got := inquiry.Seats(x, j); !slices.Equal(got, want) {
			t.Error(j, got)
		}
	}
	l := []api.Statute{x}
	if !inquiry.Governs(l, api.Task{Quorum: 2, Jurors: 3}) || inquiry.Governs(l, api.Task{Quorum: 2, Jurors: 2}) || inquiry.Governs(l, api.Task{Version: 1, Quorum: 2, Jurors: 3}) {
		t.Error("governs")
	}
}

// P10.1: which statutes are valid, at each limit.
func TestValidStatute(t *testing.T) {
	theft := []string{"theft"}
	for i, c := range []struct {
		x    api.Statute
		want bool
	}{
		{api.Statute{Reasons: theft, Quorum: 1, Weights: []int{1}}, true},
		{api.Statute{Reasons: theft, Quorum: 12, Weights: []int{12}}, true},
		{api.Statute{Reasons: theft, Quorum: 12, Weights: slices.Repeat([]int{1}, 12)}, true},
		{api.Statute{Reasons: theft, Quorum: 1, Weights: append(make([]int, 11), 1)}, true},
		{api.Statute{Reasons: theft, Quorum: 1, Weights: append(make([]int, 12), 1)}, false},
		{api.Statute{Reasons: theft, Quorum: 1, Weights: []int{13}}, false},
		{api.Statute{Reasons: theft, Quorum: 1, Weights: []int{12, 1}}, false},
		{api.Statute{Reasons: theft, Quorum: 1, Weights: []int{6, 0, 7}}, false},
		{api.Statute{Reasons: theft, Quorum: 1, Weights: []int{-1, 3}}, false},
		{api.Statute{Reasons: theft, Quorum: 1, Weights: []int{3, -1}}, false},
		{api.Statute{Reasons: theft, Quorum: 1, Weights: []int{1 << 62, 1 << 62, 1 << 62, 1 << 62, 1}}, false},
		{api.Statute{Reasons: theft, Quorum: 1}, false},
		{api.Statute{Reasons: theft, Weights: []int{0, 0}}, false},
		{api.Statute{Reasons: theft, Quorum: 1, Weights: []int{0, 0}}, false},
		{api.Statute{Reasons: theft, Quorum: 0, Weights: []int{1, 1}}, false},
		{api.Statute{Reasons: theft, Quorum: -1, Weights: []int{1, 1}}, false},
		{api.Statute{Reasons: theft, Quorum: 2, Weights: []int{1, 1}}, true},
		{api.Statute{Reasons: theft, Quorum: 3, Weights: []int{1, 1}}, false},
		{api.Statute{Quorum: 1, Weights: []int{1}}, false},
		{api.Statute{Reasons: names(16), Quorum: 1, Weights: []int{1}}, true},
		{api.Statute{Reasons: names(17), Quorum: 1, Weights: []int{1}}, false},
		{api.Statute{Reasons: []string{"a", "a"}, Quorum: 1, Weights: []int{1}}, false},
		{api.Statute{Reasons: []string{"b", "a"}, Quorum: 1, Weights: []int{1}}, false},
		{api.Statute{Reasons: []string{"a", "c", "b"}, Quorum: 1, Weights: []int{1}}, false},
		{api.Statute{Reasons: []string{"Z", "a"}, Quorum: 1, Weights: []int{1}}, true},
		{api.Statute{Reasons: []string{"a", "aa", "b"}, Quorum: 1, Weights: []int{1}}, true},
		{api.Statute{Reasons: []string{""}, Quorum: 1, Weights: []int{1}}, false},
		{api.Statute{Reasons: []string{"a", "b c"}, Quorum: 1, Weights: []int{1}}, false},
		{api.Statute{Reasons: []string{"1"}, Quorum: 1, Weights: []int{1}}, false},
		{api.Statute{Reasons: []string{"question"}, Quorum: 1, Weights: []int{1}}, true}, // a valid name, though a reserved word
		{api.Statute{Reasons: []string{strings.Repeat("a", 20)}, Quorum: 1, Weights: []int{1}}, true},
		{api.Statute{Reasons: []string{strings.Repeat("a", 21)}, Quorum: 1, Weights: []int{1}}, false},
		{api.Statute{}, false},
	} {
		if got := inquiry.ValidStatute(c.x); got != c.want || got != isStatute(c.x) {
			t.Error(i, got)
		}
		for _, j := range slices.Concat(ints, numbersTo(14)) {
			if seats := inquiry.Seats(c.x, j); !slices.Equal(seats, seatsOf(c.x, j)) || !c.want && len(seats) > 0 {
				t.Error(i, j, seats)
			}
		}
	}
}

// P10.1: the points of all jurors are the numbers from 1 on, each once, in order.
func TestSeats(t *testing.T) {
	w := middle()
	for range 300 {
		x := w.anyStatute(12)
		var all []int
		for j := range x.Weights {
			l := inquiry.Seats(x, j)
			if len(l) != x.Weights[j] {
				t.Fatal(x, j, l)
			}
			all = append(all, l...)
		}
		for i, n := range all {
			if n != i+1 {
				t.Fatal(x, all)
			}
		}
		if len(inquiry.Seats(x, -1)) > 0 || len(inquiry.Seats(x, len(x.Weights))) > 0 || !inquiry.ValidStatute(x) {
			t.Fatal(x)
		}
	}
}

// P10.1: which statutes govern a task; only Version, Quorum and Jurors of it matter.
func TestGoverns(t *testing.T) {
	l := statutes()
	for version := -1; version <= 2; version++ {
		for quorum := range 5 {
			for jurors := range 6 {
				x := api.Task{Version: version, Quorum: quorum, Jurors: jurors, Dare: -1, Question: "?"}
				want := version == 0 && quorum == 1 && jurors == 3 || version == 1 && quorum == 3 && jurors == 4
				if got := inquiry.Governs(l, x); got != want || got != governed(l, x) {
					t.Error(x, got)
				}
			}
		}
	}
	x := api.Task{Quorum: 1, Jurors: 3}
	for i, c := range []struct {
		l    []api.Statute
		want bool
	}{
		{nil, false}, {l[:1], true}, {slices.Repeat(l, 8), true}, {slices.Repeat(l, 9), false}, {append(slices.Repeat(l, 8), l[0]), false},
		{append(slices.Clone(l), api.Statute{}), false}, {[]api.Statute{l[0], {Reasons: []string{"a"}, Quorum: 2, Weights: []int{1}}}, false},
	} {
		if got := inquiry.Governs(c.l, x); got != c.want {
			t.Error(i, got)
		}
	}
	x.Version = 15
	if !inquiry.Governs(slices.Repeat(l[:1], 16), x) {
		t.Error("the last version")
	}
	for _, n := range ints {
		x := api.Task{Version: n, Quorum: 1, Jurors: 3}
		if got := inquiry.Governs(l, x); got != (n == 0) {
			t.Error(n)
		}
		if x := (api.Task{Quorum: n, Jurors: 3}); inquiry.Governs(l, x) != (n == 1) {
			t.Error(n)
		}
		if x := (api.Task{Quorum: 1, Jurors: n}); inquiry.Governs(l, x) != (n == 3) {
			t.Error(n)
		}
	}
}
