package purse_test

import (
	"math"
	"testing"

	"cloak/api"
	"cloak/purse"
)

// P7.1: all combinations of numbers at the bounds.
func TestValidLimit(t *testing.T) {
	valid := 0
	for _, count := range []int{math.MinInt, -1, 0, 1, 2, 4095, 4096, 4097, math.MaxInt} {
		for _, length := range []int{math.MinInt, -1, 0, 1, 1440, 1<<31 - 1, 1 << 31, 1<<31 + 1, math.MaxInt} {
			for _, gate := range []int{math.MinInt, -2, -1, 0, 22, 23, 24, math.MaxInt} {
				want := 1 <= count && count <= 4096 && 0 <= length && length <= 1<<31 && -1 <= gate && gate <= 23
				l := api.Limit{Count: count, Length: length, Gate: gate}
				if purse.ValidLimit(l) != want {
					t.Error(l)
				}
				if want {
					valid++
				} else if purse.Window(l, 5) != api.None || purse.Begins(l, 0) != api.None {
					t.Error(l)
				}
			}
		}
	}
	if valid != 4*5*4 || purse.ValidLimit(api.Limit{}) {
		t.Error(valid)
	}
}

// P7.1: the document's examples, and the bounds of times and windows.
func TestWindow(t *testing.T) {
	day, all := api.Limit{Count: 1, Length: 1440, Gate: api.None}, api.Limit{Count: 2}
	minute, once := api.Limit{Count: 1, Length: 1}, api.Limit{Count: 1, Length: 1 << 31}
	odd := api.Limit{Count: 1, Length: 1<<31 - 1}
	for i, c := range []struct {
		l          api.Limit
		time, want int
	}{
		{day, 2900, 2}, {day, 2879, 1}, {day, 2880, 2}, {day, 0, 0}, {day, 1439, 0}, {day, -1, api.None}, {day, 1 << 31, 1491308}, {day, 1<<31 + 1, api.None}, {day, math.MinInt, api.None}, {day, math.MaxInt, api.None},
		{all, 2900, 0}, {all, 0, 0}, {all, 1 << 31, 0}, {all, 1<<31 + 1, api.None}, {all, -1, api.None},
		{minute, 1 << 31, 1 << 31}, {minute, 77, 77}, {once, 1<<31 - 1, 0}, {once, 1 << 31, 1}, {odd, 1 << 31, 1}, {odd, 1<<31 - 2, 0},
	} {
		if got := purse.Window(c.l, c.time); got != c.want {
			t.Error(i, got)
		}
	}
	for i, c := range []struct {
		l            api.Limit
		window, want int
	}{
		{day, 2, 2880}, {day, 0, 0}, {day, -1, api.None}, {day, 1491308, 2147483520}, {day, 1491309, api.None}, {day, 1 << 31, api.None}, {day, math.MaxInt, api.None}, {day, math.MinInt, api.None},
		{all, 0, 0}, {all, 5, 0}, {all, 1 << 31, 0}, {all, 1<<31 + 1, api.None}, {all, -1, api.None}, {all, math.MaxInt, api.None},
		{minute, 1 << 31, 1 << 31}, {minute, 1<<31 + 1, api.None}, {once, 1, 1 << 31}, {once, 2, api.None}, {once, 1 << 31, api.None}, {once, 1 << 33, api.None}, {once, 1 << 32, api.None}, {odd, 1, 1<<31 - 1}, {odd, 2, api.None},
	} {
		if got := purse.Begins(c.l, c.window); got != c.want {
			t.Error(i, got)
		}
	}
}

// P7.1: the window that contains a time begins not after it, and the next one after it.
func TestWindows(t *testing.T) {
	r := random()
	for range 2000 {
		l := api.Limit{Count: 1 + r.IntN(4096), Length: 1 + r.IntN(1<<31)>>r.IntN(31), Gate: r.IntN(25) - 1}
		time := r.IntN(1<<31 + 1)
		w := purse.Window(l, time)
		at, next := purse.Begins(l, w), purse.Begins(l, w+1)
		if at != w*l.Length || at > time || time >= at+l.Length {
			t.Error(l, time, w, at)
		}
		if want := at + l.Length; next != want && !(next == api.None && want > 1<<31) {
			t.Error(l, time, w, next)
		}
	}
}
