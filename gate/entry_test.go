package gate_test

import (
	"math/rand/v2"
	"slices"
	"strings"
	"testing"

	"cloak/api"
	"cloak/base"
	"cloak/field"
	"cloak/gate"
	"cloak/proof"
	"cloak/show"
	"cloak/ticket"
)

// zeroRecord is the encoding of a zero record.
func zeroRecord() string {
	s, _ := show.Encode(api.Record{})
	return s
}

// someElements returns n different elements other than 1.
func someElements(s api.Setup, n int) []int {
	var l []int
	for x := s.Group.G; len(l) < n; x = field.Times(s.Group, x, s.Group.G) {
		l = append(l, x)
	}
	return l
}

// upTo returns the numbers from 1 to n.
func upTo(n int) []int {
	var l []int
	for i := range n {
		l = append(l, i+1)
	}
	return l
}

// entries returns entries of all kinds that have form, for a setup with Q > 16.
func entries(s api.Setup) []api.Entry {
	q, most := s.Group.Q, api.MaxTime
	task := func(dare int) string { return taskText(api.Task{Dare: dare, Question: "no question", Quorum: -1}) }
	return []api.Entry{
		{Kind: api.EnLearn, Nums: []int{1}}, {Gate: 23, No: 4095, Time: most, Kind: api.EnLearn, Nums: []int{q - 1, 1, 5}}, {Kind: api.EnLearn, Nums: upTo(16)},
		{Kind: api.EnSync, Nums: []int{0, 0}}, {Kind: api.EnSync, Nums: []int{0, most}}, {Kind: api.EnSync, Nums: []int{most, most}}, {Gate: 1, No: 7, Time: 5, Kind: api.EnSync, Nums: []int{3, 4}},
		{Kind: api.EnHear, Nums: []int{1, 0}}, {Gate: 23, Kind: api.EnHear, Nums: []int{0, 4095}}, {Kind: api.EnHear, Nums: []int{23, 5}},
		{Kind: api.EnAsk, Nums: []int{0, 1}, Text: task(1)}, {No: 9, Kind: api.EnAsk, Nums: []int{15, q - 1}, Text: task(q - 1)}, {Kind: api.EnAsk, Nums: []int{3, 7}, Text: task(7)},
		{No: 1, Kind: api.EnShow, Nums: []int{0}, Text: zeroRecord()}, {No: 4095, Kind: api.EnShow, Nums: []int{4094}, Text: zeroRecord()},
		{No: 1, Kind: api.EnRefuse, Nums: []int{0, 1}}, {No: 9, Kind: api.EnRefuse, Nums: []int{8, 100}},
		{Kind: api.EnRecall, Nums: someElements(s, 1)}, {Kind: api.EnRecall, Nums: someElements(s, 32)},
	}
}

// notEntries returns entries that have no form.
func notEntries(s api.Setup) []api.Entry {
	q, p, most := s.Group.Q, s.Group.P, api.MaxTime
	task := taskText(api.Task{Dare: 7})
	l := []api.Entry{
		{}, {Kind: api.EnLearn, Nums: []int{0}}, {Kind: api.EnLearn, Nums: []int{q}}, {Kind: api.EnLearn, Nums: []int{-1}}, {Kind: api.EnLearn, Nums: []int{2, 3, 2}}, {Kind: api.EnLearn, Nums: upTo(17)},
		{Kind: api.EnSync}, {Kind: api.EnSync, Nums: []int{0}}, {Kind: api.EnSync, Nums: []int{0, 0, 0}}, {Kind: api.EnSync, Nums: []int{1, 0}}, {Kind: api.EnSync, Nums: []int{-1, 0}}, {Kind: api.EnSync, Nums: []int{0, most + 1}},
		{Kind: api.EnHear, Nums: []int{1}}, {Kind: api.EnHear, Nums: []int{1, 0, 0}}, {Kind: api.EnHear, Nums: []int{0, 0}}, {Gate: 5, Kind: api.EnHear, Nums: []int{5, 0}}, {Kind: api.EnHear, Nums: []int{24, 0}}, {Kind: api.EnHear, Nums: []int{-1, 0}}, {Kind: api.EnHear, Nums: []int{1, -1}}, {Kind: api.EnHear, Nums: []int{1, 4096}},
		{Kind: api.EnAsk, Nums: []int{0}, Text: task}, {Kind: api.EnAsk, Nums: []int{0, 7, 0}, Text: task}, {Kind: api.EnAsk, Nums: []int{-1, 7}, Text: task}, {Kind: api.EnAsk, Nums: []int{16, 7}, Text: task}, {Kind: api.EnAsk, Nums: []int{0, 8}, Text: task}, {Kind: api.EnAsk, Nums: []int{0, 7}, Text: task + " "}, {Kind: api.EnAsk, Nums: []int{0, 7}},
		{Kind: api.EnAsk, Nums: []int{0, 0}, Text: taskText(api.Task{})}, {Kind: api.EnAsk, Nums: []int{0, q}, Text: taskText(api.Task{Dare: q})}, {Kind: api.EnAsk, Nums: []int{0, -1}, Text: taskText(api.Task{Dare: -1})},
		{No: 1, Kind: api.EnShow, Text: zeroRecord()}, {No: 1, Kind: api.EnShow, Nums: []int{1}, Text: zeroRecord()}, {No: 1, Kind: api.EnShow, Nums: []int{-1}, Text: zeroRecord()}, {No: 1, Kind: api.EnShow, Nums: []int{0, 0}, Text: zeroRecord()}, {No: 1, Kind: api.EnShow, Nums: []int{0}, Text: zeroRecord() + ","}, {No: 1, Kind: api.EnShow, Nums: []int{0}}, {Kind: api.EnShow, Nums: []int{0}, Text: zeroRecord()},
		{No: 1, Kind: api.EnRefuse, Nums: []int{0}}, {No: 1, Kind: api.EnRefuse, Nums: []int{0, 1, 1}}, {No: 1, Kind: api.EnRefuse, Nums: []int{1, 1}}, {No: 1, Kind: api.EnRefuse, Nums: []int{-1, 1}}, {No: 1, Kind: api.EnRefuse, Nums: []int{0, 0}}, {No: 1, Kind: api.EnRefuse, Nums: []int{0, 101}},
		{Kind: api.EnRecall}, {Kind: api.EnRecall, Nums: []int{1}}, {Kind: api.EnRecall, Nums: []int{0}}, {Kind: api.EnRecall, Nums: []int{-4}}, {Kind: api.EnRecall, Nums: []int{p - 1}}, {Kind: api.EnRecall, Nums: []int{p + 4}}, {Kind: api.EnRecall, Nums: []int{4, 16, 4}}, {Kind: api.EnRecall, Nums: someElements(s, 33)},
		{Kind: -1, Nums: []int{0, 0}}, {Kind: api.EnKinds, Nums: []int{0, 0}},
	}
	for _, e := range entries(s) {
		for _, change := range []func(e *api.Entry){
			func(e *api.Entry) { e.Gate = -1 }, func(e *api.Entry) { e.Gate = 24 }, func(e *api.Entry) { e.No = -1 }, func(e *api.Entry) { e.No = 4096 }, func(e *api.Entry) { e.Time = -1 }, func(e *api.Entry) { e.Time = most + 1 }, func(e *api.Entry) { e.Text += "a" },
		} {
			x := e
			change(&x)
			l = append(l, x)
		}
	}
	return l
}

// P8.4: sealed entries are signed as the document says; their signature is replaced.
func TestSeal(t *testing.T) {
	for _, s := range []api.Setup{middle(), large()} {
		q := s.Group.Q
		for i, e := range entries(s) {
			for _, secret := range []int{1, 9, q - 1} {
				e.Sig = api.Signature{C: 5, S: -6}
				want := e
				want.Sig, _ = proof.Sign(s, secret, field.Number(base.Num(secret)+bodyOf(e), q), bodyOf(e))
				x, ok := gate.Seal(s, secret, e)
				if !ok || entryText(x) != entryText(want) {
					t.Error(i, x, ok)
				}
				keys := slices.Repeat([]int{-7}, e.Gate)
				if gate.Signed(s, keys, x) || !gate.Signed(s, append(keys, ticket.Public(s, secret)), x) || !gate.Signed(s, append(keys, ticket.Public(s, secret), 0), x) || gate.Signed(s, nil, x) || gate.Signed(s, append(keys, ticket.Public(s, 2)), x) {
					t.Error(i, "signed")
				}
			}
			for _, secret := range []int{0, -1, q, -q, 1 << 62} {
				if x, ok := gate.Seal(s, secret, e); ok || !isZeroEntry(x) {
					t.Error(i, secret)
				}
			}
		}
	}
}

// P8.4: entries that have no form are not sealed, and not signed whatever their signature is.
func TestNotSealed(t *testing.T) {
	for _, s := range []api.Setup{middle(), large()} {
		for i, e := range notEntries(s) {
			if x, ok := gate.Seal(s, 9, e); ok || !isZeroEntry(x) {
				t.Error(i, e)
			}
			e.Sig, _ = proof.Sign(s, 9, 5, bodyOf(e))
			if gate.Signed(s, slices.Repeat([]int{ticket.Public(s, 9)}, 25), e) {
				t.Error(i, "signed", e)
			}
		}
	}
	e := api.Entry{Kind: api.EnSync, Nums: []int{0, 0}}
	for _, not := range notSetups() {
		if x, ok := gate.Seal(not, 9, e); ok || !isZeroEntry(x) {
			t.Error(not)
		}
		if gate.Signed(not, []int{4, 4}, e) {
			t.Error(not)
		}
	}
}

// P8.4: a signature is for one key, one entry, and the residues of its numbers.
func TestSigned(t *testing.T) {
	s := large()
	keys := keysOf(s, 24)
	for i, e := range entries(s) {
		x := seal(t, s, e)
		if !gate.Signed(s, keys, x) || gate.Signed(s, keys[:e.Gate], x) {
			t.Error(i)
		}
		for k, change := range []func(e *api.Entry){
			func(e *api.Entry) { e.Sig.C++ }, func(e *api.Entry) { e.Sig.S++ }, func(e *api.Entry) { e.Sig.C += s.Group.Q }, func(e *api.Entry) { e.Sig.S -= s.Group.Q }, func(e *api.Entry) { e.Sig = api.Signature{} },
			func(e *api.Entry) { e.Time = (e.Time + 1) % 100 }, func(e *api.Entry) { e.No = 4094 }, func(e *api.Entry) { e.Gate = (e.Gate + 2) % 24 }, func(e *api.Entry) { e.Nums = append([]int{3}, e.Nums[1:]...) }, func(e *api.Entry) { e.Kind = (e.Kind + 3) % 7 },
		} {
			y := x
			change(&y)
			if entryText(x) != entryText(y) && gate.Signed(s, keys, y) {
				t.Error(i, k)
			}
		}
	}
	// The element 1 is a key as all others are.
	x := api.Entry{Kind: api.EnSync, Nums: []int{0, 0}}
	x.Sig, _ = proof.Sign(s, 0, 5, bodyOf(x))
	if !gate.Signed(s, []int{1}, x) || gate.Signed(s, []int{s.Group.P + 1}, x) {
		t.Error("the key 1")
	}
}

// P8.4: random changes of entries, against a second implementation.
func TestForm(t *testing.T) {
	r, s := random(), middle()
	keys, formedOnes := keysOf(s, 24), 0
	for range 3000 {
		l := entries(s)
		e := l[r.IntN(len(l))]
		e.Nums = slices.Clone(e.Nums)
		switch n := []int{0, 1, 4, 16, 505, 1012, 1013}[r.IntN(7)]; r.IntN(5) {
		case 0:
			e.Nums[r.IntN(len(e.Nums))] = n
		case 1:
			e.Nums = append(e.Nums, n)
		case 2:
			e.Nums = e.Nums[:r.IntN(len(e.Nums)+1)]
		case 3:
			e.Kind = r.IntN(9) - 1
		case 4:
			e.Gate, e.No, e.Time = r.IntN(26)-1, []int{-1, 0, 1, 2, 4095, 4096}[r.IntN(6)], ints[r.IntN(len(ints))]
		}
		want := formed(s, e)
		x, ok := gate.Seal(s, 9, e)
		if ok != want {
			t.Fatal(e, ok)
		}
		if ok {
			formedOnes++
		}
		if ok && gate.Signed(s, keys, x) != (keys[e.Gate] == ticket.Public(s, 9)) {
			t.Error(x)
		}
	}
	if formedOnes < 500 || formedOnes > 2500 {
		t.Error(formedOnes)
	}
}

// P8.3, P8.22: entries of any ints and strings, and their encodings.
func TestEncode(t *testing.T) {
	x := api.Entry{Gate: 1, No: -2, Time: 3, Kind: 4, Nums: []int{5, -6}, Text: "a,b", Sig: api.Signature{C: 7, S: 8}}
	want := "4[1;-2;3;4;]2[5;-6;]3:a,b,2[7;8;]"
	if got := gate.Encode(x); got != want {
		t.Error(got)
	}
	if back, ok := gate.Decode(want); !ok || entryText(back) != want || back.Gate != 1 || back.No != -2 || back.Time != 3 || back.Kind != 4 || back.Nums[1] != -6 || back.Text != "a,b" || back.Sig.S != 8 {
		t.Error(back, ok)
	}
	if back, ok := gate.Decode(gate.Encode(api.Entry{})); !ok || !isZeroEntry(back) {
		t.Error(back, ok)
	}
	r := random()
	for range 300 {
		x := anyEntry(r)
		s := gate.Encode(x)
		if back, ok := gate.Decode(s); s != entryText(x) || !ok || entryText(back) != s {
			t.Fatal(x)
		}
		inverse(t, r, s, func(s string) (string, bool, bool) {
			x, ok := gate.Decode(s)
			return entryText(x), ok, isZeroEntry(x)
		})
	}
}

// anyEntry returns an entry of any ints and strings.
func anyEntry(r *rand.Rand) api.Entry {
	return api.Entry{Gate: anyInt(r), No: anyInt(r), Time: anyInt(r), Kind: anyInt(r), Nums: anyInts(r, r.IntN(5)), Text: anyText(r, r.IntN(20)), Sig: api.Signature{C: anyInt(r), S: anyInt(r)}}
}

// P8.3: texts that encode no entry.
func TestNoEntryText(t *testing.T) {
	good := "4[1;-2;3;4;]2[5;-6;]3:a,b,2[7;8;]"
	for _, s := range []string{
		"", good + ",", good + good, good[1:], good[:len(good)-1], " " + good, "3[1;-2;3;]2[5;-6;]3:a,b,2[7;8;]", "5[1;-2;3;4;5;]2[5;-6;]3:a,b,2[7;8;]", "4[1;-2;3;4;]2[5;-6;]3:a,b,1[7;]", "4[1;-2;3;4;]2[5;-6;]3:a,b,3[7;8;9;]", "4[1;-2;3;4;]2[5;-6;]3:a,b,2[7;+8;]",
		"4[1;-2;3;4;]9223372036854775807[5;-6;]3:a,b,2[7;8;]", "4[1;-2;3;9223372036854775808;]2[5;-6;]3:a,b,2[7;8;]", strings.Repeat("4[", 50),
	} {
		if x, ok := gate.Decode(s); ok || !isZeroEntry(x) {
			t.Error(s, x)
		}
	}
}
