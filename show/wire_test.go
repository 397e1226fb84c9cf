package show_test

import (
	"fmt"
	"math"
	"strings"
	"testing"

	"cloak/api"
	"cloak/proof"
	"cloak/show"
)

// ints returns up to three ints of any size.
func (w *world) ints() []int {
	var l []int
	for range w.IntN(4) {
		l = append(l, int(w.Uint64())>>w.IntN(64))
	}
	return l
}

// number returns an int of any size.
func (w *world) number() int { return int(w.Uint64()) >> w.IntN(64) }

// some calls a function up to three times.
func (w *world) some(f func()) {
	for range w.IntN(4) {
		f()
	}
}

// oddRecord returns any record that has an encoding; it need not have form.
func (w *world) oddRecord() api.Record {
	oddTicket := func() api.Ticket {
		return api.Ticket{Mark: w.number(), First: w.number(), Z: w.number(), A: w.number(), B: w.number(), R: w.number()}
	}
	oddSpend := func() api.Spend { return api.Spend{Dare: w.number(), Answers: w.ints()} }
	var r api.Record
	w.some(func() { r.Tickets = append(r.Tickets, oddTicket()) })
	w.some(func() { r.Spends = append(r.Spends, oddSpend()) })
	w.some(func() {
		var links []api.Link
		w.some(func() {
			links = append(links, api.Link{Ticket: oddTicket(), Spend: oddSpend(), Terms: []string{"", "a", "1:a,", "\x00\xff", "]0[]", "terms"}[w.IntN(6)]})
		})
		r.Links = append(r.Links, links)
	})
	r.Commits, r.Chain, r.Escrow = w.ints(), w.ints(), w.ints()
	w.some(func() { r.Bits = append(r.Bits, w.ints()) })
	w.some(func() {
		var dares []int
		var answers [][]int
		w.some(func() { dares, answers = append(dares, w.number()), append(answers, w.ints()) })
		r.Proof.Dares, r.Proof.Answers = append(r.Proof.Dares, dares), append(r.Proof.Answers, answers)
	})
	return r
}

// P6.12, P6.19: any records, and texts that differ from their encodings in one byte.
func TestEncode(t *testing.T) {
	w := middle()
	others := 0
	for range 400 {
		r := w.oddRecord()
		p, _ := proof.Encode(r.Proof)
		s, ok := show.Encode(r)
		if !ok || s != encodingOf(r, p) {
			t.Fatal(r, s, ok)
		}
		if back, ok := show.Decode(s); !ok || !same(back, r) {
			t.Fatal(s, back, ok)
		}
		for range 40 {
			at := w.IntN(len(s) + 1)
			change := []string{"0", "1", "2", "9", ";", "[", "]", ",", ":", "-", "", "00", "0;"}[w.IntN(13)]
			bad := s[:at] + change + s[min(len(s), at+w.IntN(2)):]
			got, ok := show.Decode(bad)
			if !ok {
				if !isZeroRecord(got) {
					t.Fatal(bad, got)
				}
				continue
			}
			if again, is := show.Encode(got); !is || again != bad {
				t.Fatal(bad, got, again)
			}
			if bad != s {
				others++
			}
		}
	}
	if others < 100 {
		t.Error(others)
	}
}

// P6.12: a record, written out.
func TestEncodeExample(t *testing.T) {
	r := api.Record{
		Tickets: []api.Ticket{{Mark: 1, First: 2, Z: 3, A: 4, B: 5, R: 6}},
		Spends:  []api.Spend{{Dare: 7, Answers: []int{8, 9}}},
		Links:   [][]api.Link{{}, {{Ticket: api.Ticket{Mark: 10, First: 11, Z: 12, A: 13, B: 14, R: 15}, Spend: api.Spend{Dare: 16, Answers: []int{17}}, Terms: "a day"}, {Terms: ""}}},
		Commits: []int{18, -19}, Chain: []int{20}, Bits: [][]int{{21, 22}, {}, {23}}, Escrow: []int{24},
		Proof: api.Proof{Dares: [][]int{{25}}, Answers: [][][]int{{{26}}}},
	}
	want := "2[5:a day,0:,]46[1;1;2;3;4;5;6;1;7;2;8;9;2;0;2;10;11;12;13;14;15;16;1;17;0;0;0;0;0;0;0;0;2;18;-19;1;20;3;2;21;22;0;1;23;1;24;]15:5[1;1;25;1;26;],"
	if s, ok := show.Encode(r); !ok || s != want {
		t.Error(s, ok)
	}
	if back, ok := show.Decode(want); !ok || !same(back, r) {
		t.Error(back, ok)
	}
	if s, ok := show.Encode(api.Record{}); !ok || s != "0[]7[0;0;0;0;0;0;0;]5:1[0;]," {
		t.Error(s, ok)
	}
}

// P6.12: records whose proof has no encoding.
func TestEncodeErrors(t *testing.T) {
	for _, p := range []api.Proof{
		{Dares: [][]int{{1}}}, {Answers: [][][]int{{{1}}}}, {Dares: [][]int{{1}}, Answers: [][][]int{{}}}, {Dares: [][]int{{}}, Answers: [][][]int{{{}}}}, {Dares: [][]int{{1}, {1, 2}}, Answers: [][][]int{{{1}}, {{1}}}}, {Dares: [][]int{{1}, {2}}, Answers: [][][]int{{{1}}}},
	} {
		if s, ok := show.Encode(api.Record{Commits: []int{1}, Proof: p}); ok || s != "" {
			t.Error(p, s)
		}
	}
}

// P6.12: texts that encode no record.
func TestDecode(t *testing.T) {
	good := "1[5:a day,]30[1;1;2;3;4;5;6;1;7;1;8;1;1;10;11;12;13;14;15;16;1;17;1;18;0;1;1;21;1;24;]5:1[0;],"
	if r, ok := show.Decode(good); !ok || len(r.Links[0]) != 1 || r.Links[0][0].Terms != "a day" || r.Bits[0][0] != 21 || r.Escrow[0] != 24 {
		t.Fatal(r, ok)
	}
	bad := []string{
		"", " " + good, good + " ", good + good, good + "0[]", "0[]", "0[]0[]", "0[]0[]5:1[0;],", "0[]7[0;0;0;0;0;0;0;]", "0[]7[0;0;0;0;0;0;0;]4:1[0;],", "0[]7[0;0;0;0;0;0;0;]0:,", "0[]7[0;0;0;0;0;0;0;]4:0[],", "0[]7[0;0;0;0;0;0;0;]6:1[-1;],", "0[]7[0;0;0;0;0;0;0;]7:2[0;0;],",
		"0[]6[0;0;0;0;0;0;]5:1[0;],", "0[]8[0;0;0;0;0;0;0;0;]5:1[0;],", "0[]7[0;0;0;0;0;0;1;]5:1[0;],", "0[]7[-1;0;0;0;0;0;0;]5:1[0;],", "0[]7[0;0;-1;0;0;0;0;]5:1[0;],", "0[]7[0;0;0;-1;0;0;0;]5:1[0;],", "0[]7[0;0;0;0;0;0;-9223372036854775808;]5:1[0;],", "0[]7[9223372036854775807;0;0;0;0;0;0;]5:1[0;],", "0[]7[0;0;9223372036854775807;0;0;0;0;]5:1[0;],", "0[]7[0;0;0;0;0;9223372036854775807;0;]5:1[0;],",
		// Terms without links, or links without terms.
		strings.Replace(good, "1[5:a day,]", "0[]", 1), strings.Replace(good, "1[5:a day,]", "2[5:a day,0:,]", 1), strings.Replace(good, "1[5:a day,]", "2[0:,5:a day,]", 1), "1[0:,]7[0;0;0;0;0;0;0;]5:1[0;],",
		strings.Replace(good, "30[", "030[", 1), strings.Replace(good, "30[", "29[", 1), strings.Replace(good, "30[", "31[", 1), strings.Replace(good, "24;", "024;", 1), strings.Replace(good, "24;", "+24;", 1), strings.Replace(good, "1[0;]", "1[00;]", 1), strings.Replace(good, "24;", "9223372036854775808;", 1),
		"99999999999[", "0[]99999999999[1;", strings.Repeat("1[", 1000),
	}
	for i := range len(good) {
		bad = append(bad, good[:i])
	}
	for _, s := range bad {
		if r, ok := show.Decode(s); ok || !isZeroRecord(r) {
			t.Error(s, r)
		}
	}
}

// P6.12, P1: counts that are much greater than what follows do not take more time or memory than the text allows.
func TestDecodeCounts(t *testing.T) {
	for i := range 7 {
		for _, n := range []int{1 << 20, 1 << 40, math.MaxInt, math.MinInt} {
			l := make([]int, 20000)
			l[i] = n
			if r, ok := show.Decode("0[]" + nums(l...) + "5:1[0;],"); ok || !isZeroRecord(r) {
				t.Error(i, n)
			}
		}
	}
	l := make([]int, 20000)
	for i := range l {
		l[i] = len(l) - i - 1
	}
	if r, ok := show.Decode("0[]" + nums(l...) + "5:1[0;],"); ok || !isZeroRecord(r) {
		t.Error("counts")
	}
}

// P6.19: showings, in all setups.
func TestEncodeShowings(t *testing.T) {
	for _, w := range worlds() {
		for range 10 {
			x, held := w.anyShowing()
			r, _, e := show.Show(w.s, x.task, held, w.coins(x.task, held))
			s, ok := show.Encode(r)
			back, is := show.Decode(s)
			if e != api.OK || !ok || !is || !same(back, r) || show.Check(w.s, x.task, back) != api.OK {
				t.Error(w.s, x.task, r, s, back)
			}
		}
	}
}

// P6.19: tasks and records that differ in one place have different contexts; also those whose parts would be equal without their lengths.
func TestContexts(t *testing.T) {
	var tasks []api.Task
	for i := range 5 {
		for _, n := range []int{0, 1, 12} {
			x := api.Task{Version: 3, Most: 4, Dare: 5, Quorum: 6, Jurors: 7}
			*[]*int{&x.Version, &x.Most, &x.Dare, &x.Quorum, &x.Jurors}[i] = n
			tasks = append(tasks, x)
		}
	}
	for _, q := range []string{"a", "ab", "1:a,", "0[]", "a,0[]"} {
		tasks = append(tasks, api.Task{Question: q})
	}
	for _, l := range [][]api.Pass{{{}}, {{}, {}}, {{Name: "a"}}, {{}, {Name: "a"}}, {{Name: "a"}, {}}, {{Pub: 1}, {}}, {{}, {Pub: 1}}, {{Attrs: []string{"a"}}}, {{Attrs: []string{"a", "b"}}}, {{Attrs: []string{"ab"}}}, {{Attrs: []string{"b", "a"}}}, {{Attrs: []string{"a"}}, {}}, {{}, {Attrs: []string{"a"}}}, {{Guests: []int{1}}, {}}, {{}, {Guests: []int{1}}}, {{Guests: []int{1, 2}}}, {{Guests: []int{12}}}, {{Guests: []int{2, 1}}}} {
		tasks = append(tasks, api.Task{Passes: l})
	}
	for _, l := range [][]int{{0}, {0, 0}, {1, 2}, {2, 1}, {12}} {
		tasks = append(tasks, api.Task{Revoked: l})
	}
	records := []api.Record{{}}
	for _, l := range [][]int{{0}, {0, 0}, {1, 2}, {2, 1}} {
		records = append(records, api.Record{Commits: l}, api.Record{Chain: l}, api.Record{Escrow: l}, api.Record{Bits: [][]int{l}}, api.Record{Bits: [][]int{l, nil}}, api.Record{Bits: [][]int{nil, l}}, api.Record{Spends: []api.Spend{{Answers: l}}}, api.Record{Spends: []api.Spend{{Dare: 1, Answers: l}}}, api.Record{Links: [][]api.Link{{{Spend: api.Spend{Answers: l}}}}})
	}
	for i := range 6 {
		for _, n := range []int{1, 2} {
			var y api.Ticket
			*[]*int{&y.Mark, &y.First, &y.Z, &y.A, &y.B, &y.R}[i] = n
			records = append(records, api.Record{Tickets: []api.Ticket{y}}, api.Record{Tickets: []api.Ticket{y, {}}}, api.Record{Tickets: []api.Ticket{{}, y}}, api.Record{Links: [][]api.Link{{{Ticket: y}}}})
		}
	}
	for _, l := range [][][]api.Link{{nil}, {nil, nil}, {{{}}}, {{{}}, nil}, {nil, {{}}}, {{{}, {}}}, {{{}}, {{}}}, {{{Terms: "a"}}}, {{{Terms: "a"}, {}}}, {{{}, {Terms: "a"}}}, {{{Terms: "ab"}}}, {{{Terms: "a"}}, {{Terms: "b"}}}} {
		records = append(records, api.Record{Links: l})
	}
	seen := map[string]string{}
	for _, x := range append(tasks, api.Task{}) {
		for _, r := range records {
			s := show.Context(x, r)
			what := fmt.Sprintf("%#v %#v", x, r)
			if seen[s] != "" {
				t.Error(s, what, seen[s])
			}
			seen[s] = what
		}
	}
}
