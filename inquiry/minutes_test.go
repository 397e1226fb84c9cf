package inquiry_test

import (
	"strings"
	"testing"

	"cloak/api"
	"cloak/inquiry"
)

// minutesOf returns the minutes of an opening.
func minutesOf(o api.Opening) string {
	s := nums(o.Holder)
	return nums(o.Version, o.Gate, o.No) + text(o.Reason) + nums(o.Jurors...) + s[2:len(s)-1]
}

// P10.5: the document's example.
func TestMinutesExample(t *testing.T) {
	o := api.Opening{Gate: 4, No: 7, Reason: "theft", Jurors: []int{0, 2}, Holder: 9}
	if s := inquiry.Minutes(o); s != "3[0;4;7;]5:theft,2[0;2;]9;" {
		t.Error(s)
	}
}

// P10.5: minutes of any openings are read again.
func TestMinutes(t *testing.T) {
	w := middle()
	number := func() int { return ints[w.IntN(len(ints))] }
	for range 500 {
		o := api.Opening{Version: number(), Gate: number(), No: number(), Holder: number(), Reason: []string{"", "a,b", "theft", "\x00\xff", "3[", "1;"}[w.IntN(6)]}
		for range w.IntN(4) {
			o.Jurors = append(o.Jurors, number())
		}
		s := inquiry.Minutes(o)
		if s != minutesOf(o) {
			t.Fatal(o, s)
		}
		back, ok := inquiry.ReadMinutes(s)
		if !ok || !same(back, o) {
			t.Fatal(s, back, ok)
		}
	}
}

// P10.5: other strings are no minutes.
func TestNoMinutes(t *testing.T) {
	no := func(s string) {
		t.Helper()
		if o, ok := inquiry.ReadMinutes(s); ok || !isZeroOpening(o) {
			t.Errorf("%q %v %v", s, o, ok)
		}
	}
	good := "3[1;-2;5;]3:a,b,2[0;3;]77;"
	for i := range good {
		no(good[:i])
		no(good[i+1:])
	}
	for _, s := range []string{
		"2[1;2;]0:,0[]0;", "4[1;2;3;4;]0:,0[]0;", "0[]0:,0[]0;", "3[1;2;3;]0:,0[]", "3[1;2;3;]0:,0[]0;0;", "3[1;2;3;]0:,0[]-0;", "3[1;2;3;]0:,0[]01;",
		"3[1;2;3;]0:,0[]9223372036854775808;", "3[1;2;3;]0:,99999999999[]0;", "3[1;2;3;]1:,0[]0;", "3[1;2;3;]0:,1[]0;", "3[1;2;3;]0[]0;", good + good, " " + good, good + " ",
		"99999999999999[1;2;3;]0:,0[]0;", "3[1;2;+3;]0:,0[]0;",
	} {
		no(s)
	}
	if o, ok := inquiry.ReadMinutes("3[0;0;0;]0:,0[]0;"); !ok || !isZeroOpening(o) {
		t.Error(o, ok)
	}
}

// P10.5: whatever is read has the minutes that were read.
func TestMinutesOrNot(t *testing.T) {
	w := middle()
	read := 0
	for range 20000 {
		s := []byte("3[1;-2;5;]3:a,b,2[0;3;]77;")
		for range 1 + w.IntN(3) {
			i := w.IntN(len(s))
			s[i] = "0123-;:,[]ab"[w.IntN(12)]
		}
		o, ok := inquiry.ReadMinutes(string(s))
		if ok && inquiry.Minutes(o) != string(s) || !ok && !isZeroOpening(o) {
			t.Fatalf("%q %v", s, o)
		}
		if ok && !strings.Contains(string(s), "77;") {
			read++
		}
	}
	if read < 100 {
		t.Error(read)
	}
}
