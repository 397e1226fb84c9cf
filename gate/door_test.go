package gate_test

import (
	"fmt"
	"math/big"
	"math/rand/v2"
	"slices"
	"testing"

	"cloak/api"
	"cloak/field"
	"cloak/gate"
	"cloak/show"
	"cloak/ticket"
)

// P8.1: the examples of the document.
func TestChallengeExamples(t *testing.T) {
	if a, b := gate.Challenge(small(), 2, 0), gate.Challenge(small(), 2, 1); a != 3 || b != 0 {
		t.Error(a, b)
	}
	for i, c := range [][2]int{{0, 16}, {3, 9}, {10, 0}, {11, 16}, {21, 0}} {
		if got := gate.Key(small(), 16, c[0]); got != c[1] {
			t.Error(i, got)
		}
	}
}

// P8.1: any gates and serials, against the definition.
func TestChallenge(t *testing.T) {
	for _, s := range setups() {
		for _, number := range append(ints, 21, 22, 4, 5) {
			for _, serial := range append(ints, 20, 21, 22, s.Group.Q/48, s.Group.Q/48+1, s.Group.Q/48-1) {
				want := 0
				n := new(big.Int).Mul(big.NewInt(int64(serial)), big.NewInt(24))
				n.Add(n, big.NewInt(int64(number)+1))
				if within(number, 0, 23) && serial >= 0 && n.Cmp(big.NewInt(int64(s.Group.Q/2))) <= 0 {
					want = int(n.Int64())
				}
				if got := gate.Challenge(s, number, serial); got != want {
					t.Error(s, number, serial, got, want)
				}
			}
		}
	}
	for _, s := range notSetups() {
		if gate.Challenge(s, 0, 0) != 0 || gate.Key(s, 4, 0) != 0 {
			t.Error(s)
		}
	}
}

// P8.1, P8.16: the challenges of all gates are all numbers up to Q/2, each once.
func TestChallengesDiffer(t *testing.T) {
	for _, s := range []api.Setup{small(), middle()} {
		var l []int
		for number := range 24 {
			for serial := 0; gate.Challenge(s, number, serial) > 0; serial++ {
				l = append(l, gate.Challenge(s, number, serial))
			}
		}
		slices.Sort(l)
		if !distinct(l, 1, s.Group.Q/2) || len(l) != s.Group.Q/2 {
			t.Error(s, l)
		}
	}
}

// P8.1: keys are those of the secret multiplied by the window plus 1.
func TestKey(t *testing.T) {
	for _, s := range setups() {
		q := s.Group.Q
		for _, secret := range []int{1, 2, 7, q - 1} {
			for _, window := range append(ints, 9, 10, 11, 12, q-1, q-2, q, 2*q-1) {
				want := 0
				if within(window, 0, 1<<31) {
					want = ticket.Public(s, field.Mul(q, secret, window+1)) // 0 for the secret 0
				}
				if got := gate.Key(s, ticket.Public(s, secret), window); got != want {
					t.Error(s, secret, window, got, want)
				}
			}
		}
		p := s.Group.P
		for _, not := range append(ints[:6:6], 1, p, p+4, p-1, p-4, 5-p, 4-p) {
			if gate.Key(s, not, 0) != 0 || gate.Key(s, not, 3) != 0 {
				t.Error(s, not)
			}
		}
	}
}

// P8.2: doors that are not valid.
func TestValidDoor(t *testing.T) {
	for _, s := range setups() {
		good := []api.Door{door(s)}
		if s.Group.Q > 1000 {
			good = doors(s)
		}
		for i, d := range good {
			// What the door has as Revoked and Dare does not matter.
			d.Task.Revoked, d.Task.Dare = []int{0, -1}, i-1
			if !gate.ValidDoor(s, d) {
				t.Error(s, i)
			}
		}
		if s.Group.Q < 1000 {
			continue
		}
		for i, change := range []func(d *api.Door){
			func(d *api.Door) { d.Limit.Count = 0 }, func(d *api.Door) { d.Limit.Length = -1 }, func(d *api.Door) { d.Limit.Gate = 24 }, func(d *api.Door) { d.Limit.Length = 1<<31 + 1 },
			func(d *api.Door) { d.Task.Question = "" }, func(d *api.Door) { d.Task.Question = "question q { p.c >= 1 }" }, func(d *api.Door) { d.Task.Question = "question q { p.a >= 3 }" },
			func(d *api.Door) { d.Task.Most = s.Group.Q }, func(d *api.Door) { d.Task.Most = 0 }, func(d *api.Door) { d.Task.Quorum = 4 }, func(d *api.Door) { d.Task.Jurors = 13 }, func(d *api.Door) { d.Task.Version = -1 },
			func(d *api.Door) { d.Task.Passes = nil }, func(d *api.Door) { d.Task.Passes[0].Pub = 1 }, func(d *api.Door) { d.Task.Passes[0].Pub = 0 }, func(d *api.Door) { d.Task.Passes[0].Name = "2" }, func(d *api.Door) { d.Task.Passes[0].Guests[0] = d.Task.Passes[0].Pub },
			func(d *api.Door) { d.Task.Passes[0].Attrs = []string{"a", "a"} },
		} {
			d := door(s)
			change(&d)
			if gate.ValidDoor(s, d) {
				t.Error(s, i)
			}
			if x, e := gate.Task(s, d, 0, nil, 1); e != api.ErrArg || !isZeroTask(x) {
				t.Error(s, i, e)
			}
		}
	}
	for _, not := range notSetups() {
		if gate.ValidDoor(not, door(middle())) {
			t.Error(not)
		}
		if x, e := gate.Task(not, door(middle()), 0, nil, 1); e != api.ErrArg || !isZeroTask(x) {
			t.Error(not, e)
		}
	}
}

// P8.2: the task of a door.
func TestTask(t *testing.T) {
	for _, s := range []api.Setup{middle(), large()} {
		for i, d := range doors(s) {
			d.Task.Revoked, d.Task.Dare = []int{5}, 6
			before := taskText(d.Task)
			for _, now := range []int{0, 59, 60, 89, 90, 125, 1 << 31} {
				window := 0
				if d.Limit.Length > 0 {
					window = now / d.Limit.Length
				}
				want := d.Task
				want.Revoked, want.Dare, want.Passes = []int{9, 4, 9}, 33, slices.Clone(d.Task.Passes)
				want.Passes[0].Pub = gate.Key(s, ticket.Public(s, secretP), window)
				want.Passes[0].Guests = []int{gate.Key(s, ticket.Public(s, secretGuest), window)}
				if i == 2 {
					want.Passes[1].Pub = gate.Key(s, ticket.Public(s, secretO), window)
				}
				x, e := gate.Task(s, d, now, []int{9, 4, 9}, 33)
				if e != api.OK || taskText(x) != taskText(want) || show.Ready(s, x) != api.OK || taskText(d.Task) != before {
					t.Error(s, i, now, x, e)
				}
			}
		}
	}
}

// P8.2: what there is no task for.
func TestNoTask(t *testing.T) {
	s := middle()
	q := s.Group.Q
	own := door(s)
	own.Limit.Gate = 5
	for i, c := range []struct {
		d         api.Door
		now, dare int
		revoked   []int
		e         api.Errno
	}{
		{door(s), 0, 1, nil, api.OK}, {own, 0, 1, nil, api.OK}, {door(s), 0, q - 1, []int{1, q - 1}, api.OK}, {door(s), 0, 1, slices.Repeat([]int{1}, 16), api.OK},
		{door(s), -1, 1, nil, api.ErrArg}, {door(s), 1<<31 + 1, 1, nil, api.ErrArg}, {door(s), 1 << 31, 1, nil, api.OK},
		{door(s), 0, 0, nil, api.ErrArg}, {door(s), 0, q, nil, api.ErrArg}, {door(s), 0, -1, nil, api.ErrArg},
		{door(s), 0, 1, []int{0}, api.ErrArg}, {door(s), 0, 1, []int{q}, api.ErrArg}, {door(s), 0, 1, slices.Repeat([]int{1}, 17), api.ErrArg},
		// The window whose number plus 1 is a multiple of Q has no keys.
		{door(s), 60*(q-1) - 1, 1, nil, api.OK}, {door(s), 60 * (q - 1), 1, nil, api.ErrArg}, {door(s), 60*q - 1, 1, nil, api.ErrArg}, {door(s), 60 * q, 1, nil, api.OK},
	} {
		x, e := gate.Task(s, c.d, c.now, c.revoked, c.dare)
		if e != c.e || e != api.OK && !isZeroTask(x) {
			t.Error(i, x, e)
		}
	}
}

// anyTask returns a task of any numbers and strings.
func anyTask(r *rand.Rand) api.Task {
	t := api.Task{Version: anyInt(r), Most: anyInt(r), Dare: anyInt(r), Quorum: anyInt(r), Jurors: anyInt(r), Question: anyText(r, r.IntN(30)), Revoked: anyInts(r, r.IntN(4))}
	for range r.IntN(4) {
		p := api.Pass{Name: anyText(r, r.IntN(5)), Pub: anyInt(r), Guests: anyInts(r, r.IntN(3))}
		for range r.IntN(3) {
			p.Attrs = append(p.Attrs, anyText(r, r.IntN(4)))
		}
		t.Passes = append(t.Passes, p)
	}
	return t
}

// anyInt returns any int, of any length.
func anyInt(r *rand.Rand) int {
	if r.IntN(10) == 0 {
		return ints[r.IntN(len(ints))]
	}
	return int(r.Uint64()) >> r.IntN(64)
}

func anyInts(r *rand.Rand, n int) []int {
	var l []int
	for range n {
		l = append(l, anyInt(r))
	}
	return l
}

// anyText returns a string of n bytes.
func anyText(r *rand.Rand, n int) string {
	b := make([]byte, n)
	for i := range b {
		b[i] = byte(r.IntN(256))
	}
	return string(b)
}

// P8.3, P8.22: tasks and their encodings.
func TestEncodeTask(t *testing.T) {
	x := api.Task{Version: 1, Question: "a", Passes: []api.Pass{{Name: "p", Pub: -3, Attrs: []string{"x", ""}, Guests: []int{8, 9}}, {}}, Most: 2, Revoked: []int{7}, Dare: 3, Quorum: 4, Jurors: 5}
	want := "5[1;2;3;4;5;]1:a,1[7;]2;1:p,-3;2[1:x,0:,]2[8;9;]0:,0;0[]0[]"
	if got := gate.EncodeTask(x); got != want {
		t.Error(got)
	}
	if got := gate.EncodeTask(api.Task{}); got != "5[0;0;0;0;0;]0:,0[]0;" {
		t.Error(got)
	}
	if back, ok := gate.DecodeTask(want); !ok || taskText(back) != want || back.Jurors != 5 || back.Passes[0].Attrs[0] != "x" || back.Passes[0].Guests[1] != 9 {
		t.Error(back, ok)
	}
	if back, ok := gate.DecodeTask("5[0;0;0;0;0;]0:,0[]0;"); !ok || !isZeroTask(back) {
		t.Error(back, ok)
	}
	r := random()
	for range 300 {
		x := anyTask(r)
		s := gate.EncodeTask(x)
		if back, ok := gate.DecodeTask(s); s != taskText(x) || !ok || taskText(back) != s {
			t.Fatal(x)
		}
		inverse(t, r, s, func(s string) (string, bool, bool) {
			x, ok := gate.DecodeTask(s)
			return taskText(x), ok, isZeroTask(x)
		})
	}
}

// inverse checks that texts that differ from s in one byte are the encodings of what they are decoded to, or are not decoded, to a zero value.
func inverse(t *testing.T, r *rand.Rand, s string, decode func(s string) (text string, ok, zero bool)) {
	t.Helper()
	at := r.IntN(len(s))
	for _, c := range []byte("0123456789;:,[]-+ x\x00") {
		for _, other := range []string{s[:at] + string(c) + s[at+1:], s[:at] + string(c) + s[at:], s[:at] + s[at+1:], s + string(c)} {
			if text, ok, zero := decode(other); ok && text != other || !ok && !zero {
				t.Error(other, text, ok)
			}
		}
	}
}

// P8.3: texts that encode no task.
func TestNoTaskText(t *testing.T) {
	good := "5[1;2;3;4;5;]1:a,1[7;]1;1:p,-3;1[1:x,]2[8;9;]"
	if _, ok := gate.DecodeTask(good); !ok {
		t.Fatal("good")
	}
	for _, s := range []string{
		"", good + " ", good + good, good[1:], good[:len(good)-1], " " + good,
		"4[1;2;3;4;]1:a,1[7;]1;1:p,-3;1[1:x,]2[8;9;]", "6[1;2;3;4;5;6;]1:a,1[7;]1;1:p,-3;1[1:x,]2[8;9;]", "5[01;2;3;4;5;]1:a,1[7;]1;1:p,-3;1[1:x,]2[8;9;]",
		"5[1;2;3;4;5;]1:a,1[7;]0;1:p,-3;1[1:x,]2[8;9;]", "5[1;2;3;4;5;]1:a,1[7;]2;1:p,-3;1[1:x,]2[8;9;]", "5[1;2;3;4;5;]1:a,1[7;]-1;1:p,-3;1[1:x,]2[8;9;]", "5[1;2;3;4;5;]1:a,1[7;]1;1:p,-0;1[1:x,]2[8;9;]",
		"5[1;2;3;4;5;]1:a,1[7;]9223372036854775807;1:p,-3;1[1:x,]2[8;9;]", "5[1;2;3;4;5;]1:a,1[7;]9223372036854775808;1:p,-3;1[1:x,]2[8;9;]", "5[1;2;3;4;5;]1:a,9223372036854775807[7;]1;1:p,-3;1[1:x,]2[8;9;]",
	} {
		if x, ok := gate.DecodeTask(s); ok || !isZeroTask(x) {
			t.Error(s, fmt.Sprint(x))
		}
	}
}
