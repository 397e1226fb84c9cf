package purse_test

import (
	"fmt"
	"strings"
	"testing"

	"cloak/api"
	"cloak/purse"
)

// P7.3
func TestEncode(t *testing.T) {
	h := api.Held{
		Limit: 1, Window: 2, Attrs: []int{3, 4}, Blinding: api.Blinding{S: 5, U: 6, V: 7, Ys: []int{8}}, Ticket: api.Ticket{Mark: 9, First: 10, Z: 11, A: 12, B: 13, R: 14},
		Links: []api.Link{{Ticket: api.Ticket{Mark: 15, First: 16, Z: 17, A: 18, B: 19, R: -20}, Spend: api.Spend{Dare: -21, Answers: []int{22, 23}}, Terms: "9;1:a,"}, {}},
	}
	want := "2[1;2;]2[3;4;]3[5;6;7;]1[8;]6[9;10;11;12;13;14;]2;6[15;16;17;18;19;-20;]-21;2[22;23;]6:9;1:a,,6[0;0;0;0;0;0;]0;0[]0:,"
	if got := purse.Encode(h); got != want {
		t.Error(got)
	}
	if back, ok := purse.Decode(want); !ok || encoded(back) != want || len(back.Links) != 2 || back.Links[0].Terms != "9;1:a," || back.Blinding.Ys[0] != 8 || back.Ticket != h.Ticket {
		t.Error(back, ok)
	}
	if got := purse.Encode(api.Held{}); got != "2[0;0;]0[]3[0;0;0;]0[]6[0;0;0;0;0;0;]0;" {
		t.Error(got)
	}
	if back, ok := purse.Decode(purse.Encode(api.Held{})); !ok || !isZeroHeld(back) {
		t.Error(back, ok)
	}
}

// P7.3: any held tickets, with any number of links, of which at most four are decoded; texts that differ in one byte.
func TestDecode(t *testing.T) {
	r := random()
	for i := range 200 {
		h := api.Held{Limit: anyInt(r), Window: anyInt(r), Attrs: anyInts(r, r.IntN(5)), Blinding: api.Blinding{S: anyInt(r), U: anyInt(r), V: anyInt(r), Ys: anyInts(r, r.IntN(5))}, Ticket: anyTicket(r), Links: anyLinks(r, i%7)}
		s := purse.Encode(h)
		if s != encoded(h) {
			t.Fatal(s, h)
		}
		got, ok := purse.Decode(s)
		if ok != (len(h.Links) <= 4) || ok && encoded(got) != s || !ok && !isZeroHeld(got) {
			t.Error(s, got, ok)
		}
		at := r.IntN(len(s))
		for _, c := range []byte("0123456789;:,[]-+ x\x00") {
			for _, other := range []string{s[:at] + string(c) + s[at+1:], s[:at] + string(c) + s[at:], s[:at] + s[at+1:]} {
				if got, ok := purse.Decode(other); ok && (encoded(got) != other || len(got.Links) > 4) || !ok && !isZeroHeld(got) {
					t.Error(other, got, ok)
				}
			}
		}
	}
}

// P7.3: texts that encode no held ticket.
func TestNotDecoded(t *testing.T) {
	good := "2[1;2;]2[3;4;]3[5;6;7;]1[8;]6[9;10;11;12;13;14;]1;6[15;16;17;18;19;20;]21;2[22;23;]6:9;1:a,,"
	if _, ok := purse.Decode(good); !ok {
		t.Fatal(good)
	}
	bad := []string{" " + good, good + " ", good + good, good + "0;", good + "6[0;0;0;0;0;0;]0;0[]0:,"}
	for i := range len(good) {
		bad = append(bad, good[:i])
	}
	for _, c := range [][2]string{
		{"2[1;2;]", "1[1;]"}, {"2[1;2;]", "3[1;2;3;]"}, {"2[1;2;]", "3[1;2;0;]"}, {"2[1;2;]", "0[]"}, {"2[1;2;]", "02[1;2;]"}, {"2[1;2;]", "2[01;2;]"}, {"2[1;2;]", "2[+1;2;]"}, {"2[1;2;]", "2[-0;2;]"}, {"2[1;2;]", "2[9223372036854775808;2;]"}, {"2[1;2;]", "99999999999[1;2;]"},
		{"3[5;6;7;]", "2[5;6;]"}, {"3[5;6;7;]", "4[5;6;7;0;]"}, {"6[9;10;11;12;13;14;]", "5[9;10;11;12;13;]"}, {"6[9;10;11;12;13;14;]", "7[9;10;11;12;13;14;0;]"},
		{"1;6[15", "0;6[15"}, {"1;6[15", "2;6[15"}, {"1;6[15", "01;6[15"}, {"1;6[15", "-1;6[15"}, {"1;6[15", "9223372036854775807;6[15"}, {"1;6[15", "+1;6[15"},
		{"6[15;16;17;18;19;20;]", "5[15;16;17;18;19;]"}, {"6[15;16;17;18;19;20;]", "7[15;16;17;18;19;20;0;]"}, {"21;", "021;"}, {"21;", "-0;"}, {"6:9;1:a,,", "6:9;1:a,"}, {"6:9;1:a,,", "06:9;1:a,,"}, {"6:9;1:a,,", "5:9;1:a,,"},
	} {
		if !strings.Contains(good, c[0]) {
			t.Fatal(c)
		}
		bad = append(bad, strings.Replace(good, c[0], c[1], 1))
	}
	for n := range 20 {
		h := encoded(api.Held{Links: make([]api.Link, n)})
		if _, ok := purse.Decode(h); ok != (n <= 4) {
			t.Error(n)
		}
		bad = append(bad, strings.Replace(h, fmt.Sprintf("]%d;", n), fmt.Sprintf("]%d;", n+1), 1))
	}
	for _, s := range bad {
		if h, ok := purse.Decode(s); ok || !isZeroHeld(h) {
			t.Error(s, h)
		}
	}
}

// P7.3, P1: long texts take no more time than their length allows.
func TestDecodeLong(t *testing.T) {
	for _, s := range []string{
		strings.Repeat("2[1;2;]", 100000), nums(make([]int, 300000)...), "2[1;2;]" + nums(make([]int, 300000)...), strings.Repeat("9", 300000), strings.Repeat("1[", 100000), "2[1;2;]0[]3[1;2;3;]0[]6[1;2;3;4;5;6;]9223372036854775807;" + strings.Repeat("6[1;2;3;4;5;6;]0;0[]0:,", 20000),
	} {
		if h, ok := purse.Decode(s); ok || !isZeroHeld(h) {
			t.Error(s[:50])
		}
	}
	h := api.Held{Attrs: make([]int, 100000), Links: []api.Link{{Terms: strings.Repeat("x", 100000)}}}
	if got, ok := purse.Decode(purse.Encode(h)); !ok || encoded(got) != encoded(h) {
		t.Error("long ticket")
	}
}
