package show_test

import (
	"math"
	"slices"
	"strings"
	"testing"

	"cloak/api"
	"cloak/show"
	"cloak/ticket"
)

// P6.1: the examples, and the definition for all numbers.
func TestWidth(t *testing.T) {
	for most, want := range map[int]int{1: 2, 2: 3, 3: 3, 4: 4, 7: 4, 8: 5, 32767: 16, 32768: 17, 65535: 17} {
		if n := show.Width(most); n != want {
			t.Error(most, n)
		}
	}
	for most := 1; most <= api.MaxValue; most++ {
		n := show.Width(most)
		if n < 1 || 1<<n <= 2*most || 1<<(n-1) > 2*most {
			t.Fatal(most, n)
		}
	}
	for _, most := range []int{0, -1, -65535, 65536, 1 << 20, 1 << 62, 1<<62 + 1, math.MaxInt, math.MinInt, math.MinInt + 1} {
		if n := show.Width(most); n != 0 {
			t.Error(most, n)
		}
	}
}

// changed is a change of a task, and the error that it leads to.
type changed struct {
	change func(x *api.Task)
	want   api.Errno
}

// formChanges are changes of a valid task of a world by which it has no form any more, and some by which it does.
func formChanges(w *world) []changed {
	q := w.s.Group.Q
	var l []changed
	add := func(want api.Errno, change func(x *api.Task)) { l = append(l, changed{change, want}) }
	for n, want := range map[int]api.Errno{0: api.OK, 1: api.OK, math.MaxInt: api.OK, -1: api.ErrArg, math.MinInt: api.ErrArg} {
		add(want, func(x *api.Task) { x.Version = n })
	}
	for n, want := range map[int]api.Errno{1: api.OK, w.most(): api.OK, 0: api.ErrArg, -1: api.ErrArg, w.most() + 1: api.ErrArg, 65536: api.ErrArg, 1 << 60: api.ErrArg, 1 << 61: api.ErrArg, math.MaxInt: api.ErrArg, math.MinInt: api.ErrArg} {
		add(want, func(x *api.Task) { x.Most = n })
	}
	for n, want := range map[int]api.Errno{1: api.OK, q - 1: api.OK, 0: api.ErrArg, -1: api.ErrArg, q: api.ErrArg, q + 1: api.ErrArg, math.MaxInt: api.ErrArg, math.MinInt: api.ErrArg} {
		add(want, func(x *api.Task) { x.Dare = n })
		add(want, func(x *api.Task) { x.Revoked = []int{n} })
		add(want, func(x *api.Task) { x.Revoked = []int{1, 2, n} })
		add(want, func(x *api.Task) { x.Revoked = append(slices.Repeat([]int{3}, 15), n) })
	}
	add(api.OK, func(x *api.Task) { x.Revoked = nil })
	add(api.OK, func(x *api.Task) { x.Revoked = []int{5, 5} })
	add(api.ErrArg, func(x *api.Task) { x.Revoked = slices.Repeat([]int{3}, 17) })
	add(api.ErrArg, func(x *api.Task) { x.Revoked = slices.Repeat([]int{3}, 1<<20) })
	for _, n := range [][2]int{{1, 1}, {1, 10}, {10, 10}, {3, 4}} {
		add(api.OK, func(x *api.Task) { x.Quorum, x.Jurors = n[0], n[1] })
	}
	for _, n := range [][2]int{{0, 4}, {-1, 4}, {5, 4}, {0, 0}, {-1, -1}, {math.MinInt, 4}, {4, math.MinInt}, {13, 13}, {1, 13}, {1, math.MaxInt}, {math.MaxInt, math.MaxInt}} {
		add(api.ErrArg, func(x *api.Task) { x.Quorum, x.Jurors = n[0], n[1] })
	}
	for n := 11; n <= 12; n++ {
		want := api.OK
		if n >= q {
			want = api.ErrArg
		}
		add(want, func(x *api.Task) { x.Quorum, x.Jurors = 2, n })
	}
	long := "question q { 0 <= 1 }"
	add(api.OK, func(x *api.Task) { x.Question = long + strings.Repeat(" ", 4000-len(long)) })
	add(api.ErrArg, func(x *api.Task) { x.Question = long + strings.Repeat(" ", 4001-len(long)) })
	add(api.ErrArg, func(x *api.Task) { x.Question = strings.Repeat("x", 4001) })
	return append(l, passChanges(w)...)
}

// passChanges are changes of the passes of a valid task.
func passChanges(w *world) []changed {
	var l []changed
	add := func(want api.Errno, change func(x *api.Task)) { l = append(l, changed{change, want}) }
	add(api.ErrArg, func(x *api.Task) { x.Passes = nil })
	more := func(names ...string) func(x *api.Task) {
		return func(x *api.Task) {
			for _, n := range names {
				x.Passes = append(x.Passes, api.Pass{Name: n, Pub: w.key(2)})
			}
		}
	}
	add(api.OK, more("a", "b", "c"))
	add(api.ErrArg, more("a", "b", "c", "d"))
	add(api.ErrArg, more("id"))
	add(api.ErrArg, more("a", "b", "a"))
	for name, want := range map[string]api.Errno{"of": api.OK, "question": api.OK, "A_1": api.OK, strings.Repeat("x", 20): api.OK, strings.Repeat("x", 21): api.ErrArg, "": api.ErrArg, "_a": api.ErrArg, "1a": api.ErrArg, "a.b": api.ErrArg, "a b": api.ErrArg, "a ": api.ErrArg, "\xe4": api.ErrArg} {
		add(want, more(name))
		add(want, func(x *api.Task) {
			x.Question, x.Passes[0].Attrs = "question q { 0 <= 1 }", nil
			if len(w.s.Bases) > 2 {
				x.Passes[0].Attrs = []string{name}
			} else {
				x.Passes[0].Name = name
			}
		})
	}
	attrs := func(want api.Errno, l ...string) {
		add(want, func(x *api.Task) { x.Question, x.Passes[0].Attrs = "question q { 0 <= 1 }", l })
	}
	n := len(w.s.Bases) - 2
	attrs(api.OK)
	attrs(api.OK, []string{"a", "b", "c", "d", "e"}[:n]...)
	attrs(api.ErrArg, []string{"a", "b", "c", "d", "e", "f"}[:n+1]...)
	attrs(api.ErrArg, slices.Repeat([]string{"a"}, 1<<16)...)
	attrs(api.ErrArg, "a", "a")
	for _, key := range append(w.notElements(), 1) {
		add(api.ErrArg, func(x *api.Task) { x.Passes[0].Pub = key })
		add(api.ErrArg, func(x *api.Task) { x.Passes[0].Guests = []int{key} })
		add(api.ErrArg, func(x *api.Task) { x.Passes[0].Guests = []int{w.key(1), w.key(2), key} })
		add(api.ErrArg, func(x *api.Task) { x.Passes = append(x.Passes, api.Pass{Name: "last", Pub: key}) })
	}
	guests := func(want api.Errno, secrets ...int) {
		add(want, func(x *api.Task) {
			x.Passes[0].Guests = nil
			for _, s := range secrets {
				x.Passes[0].Guests = append(x.Passes[0].Guests, w.key(s))
			}
		})
	}
	guests(api.OK, 1, 2, 3, 4, 5, 7, 8, 9)
	guests(api.ErrArg, 1, 2, 3, 4, 5, 7, 8, 9, 10)
	guests(api.ErrArg, 6)
	guests(api.ErrArg, 1, 2, 6)
	guests(api.ErrArg, 1, 2, 1)
	add(api.OK, func(x *api.Task) { // two passes may have the same keys, and guests of each other
		x.Passes = append(x.Passes, x.Passes[0], x.Passes[0])
		x.Passes[1].Name, x.Passes[2].Name = "b", "c"
		x.Passes[2].Pub, x.Passes[2].Guests = w.key(2), []int{w.key(6), w.key(1)}
	})
	return l
}

// P6.1: the form of tasks, in all setups.
func TestTaskForm(t *testing.T) {
	for _, w := range worlds() {
		if e := show.Ready(w.s, w.task("0 <= 1")); e != api.OK {
			t.Fatal(w.s, e)
		}
		for i, x := range formChanges(w) {
			task := w.task("0 <= 1")
			x.change(&task)
			if e := show.Ready(w.s, task); e != x.want {
				t.Error(w.s, i, task, e, x.want)
			}
		}
	}
	for _, s := range notSetups() {
		if e := show.Ready(s, middle().task("0 <= 1")); e != api.ErrArg {
			t.Error(s, e)
		}
	}
}

// question is a text between the braces of a question, and the error of a task of middle with it.
type question struct {
	text string
	want api.Errno
}

// P6.1: questions.
func TestReadyQuestions(t *testing.T) {
	w := middle()
	for _, x := range []question{
		{"id.age >= 6", api.OK}, {"id.age >= id.town - 10", api.OK}, {"id.age = 10 and id.town != 0", api.OK}, {"at least 2 of (id.age >= 3, id.town <= 2, id.age > id.town)", api.OK},
		{"0 <= 1", api.OK}, {"not 0 > 1", api.OK}, {"id.age <= id.age", api.OK}, {"id.town < id.town or id.age < 2", api.OK},
		{"id.age >= ", api.ErrSyntax}, {"id.age in { 3 .. 2 }", api.ErrRange}, {"id.age $ 3", api.ErrToken}, {"id.age <= 007", api.ErrRange}, {"\"", api.ErrForm}, {strings.TrimSuffix(strings.Repeat("id.age<1 or ", 100), " or ") + " or id.age<2", api.ErrFull},
		{"id.shoe >= 6", api.ErrName}, {"ie.age >= 6", api.ErrName}, {"id.ag >= 6", api.ErrName}, {"age.id >= 6", api.ErrName}, {"id.age <= id.shoe", api.ErrName}, {"x.y <= x.y", api.ErrName}, {"id.id >= 6", api.ErrName}, {"Id.age >= 6", api.ErrName},
		{"1 <= 0", api.ErrUnsat}, {"id.age < id.age", api.ErrUnsat}, {"id.age >= 2 and 1 < 1", api.ErrUnsat}, {"not id.age <= id.age + 3", api.ErrUnsat}, {"at least 1 of (0 > 1)", api.ErrUnsat}, {"id.age >= 2 and id.age <= 1", api.OK},
		// C is from -Most - 1 to Most.
		{"id.age <= 10", api.OK}, {"id.age <= 11", api.ErrRange}, {"id.age < 11", api.OK}, {"id.age > 10", api.OK}, {"id.age >= 11", api.OK}, {"id.age > 11", api.ErrRange}, {"id.age >= 12", api.ErrRange},
		{"id.age <= id.town + 10", api.OK}, {"id.age <= id.town + 11", api.ErrRange}, {"id.age <= id.town - 11", api.OK}, {"id.age <= id.town - 12", api.ErrRange}, {"id.age = 11", api.ErrRange}, {"id.age != 11", api.ErrRange}, {"id.age in { 0 .. 10 }", api.OK},
		{"id.age >= 2 or id.town >= 1099511627775", api.ErrRange}, {"id.age <= 3 and id.town <= 1099511627775", api.ErrRange}, {"id.age <= id.age + 50", api.OK}, {"id.age <= 50 or 0 <= 1", api.OK},
	} {
		if e := show.Ready(w.s, w.task(x.text)); e != x.want {
			t.Error(x, e)
		}
	}
	eight := "id.age<1 or id.age<2 or id.age<3 or id.age<4 or id.age<5 or id.age<6 or id.age<7 or id.age<8"
	if e := show.Ready(w.s, w.task(eight)); e != api.OK {
		t.Error(e)
	}
	if e := show.Ready(w.s, w.task(eight+" or id.age<9")); e != api.ErrFull {
		t.Error(e)
	}
}

// P6.1, P2: the first error that applies is returned.
func TestReadyOrder(t *testing.T) {
	w := middle()
	nine := "id.age<1 or id.age<2 or id.age<3 or id.age<4 or id.age<5 or id.age<6 or id.age<7 or id.age<8 or id.age<9"
	for _, x := range []question{
		{"id.shoe > 3 and 1 <= 0 and id.age <= 99 and (" + nine + ") and", api.ErrSyntax},
		{"id.shoe > 3 and 1 <= 0 and id.age <= 99 and (" + nine + ")", api.ErrName},
		{"id.town > 3 and 1 <= 0 and id.age <= 99 and (" + nine + ")", api.ErrFull},
		{"id.town > 3 and 1 <= 0 and id.age <= 99", api.ErrUnsat},
		{"id.town > 3 and 0 <= 1 and id.age <= 99", api.ErrRange},
		{"id.town > 3 and 0 <= 1 and id.age <= 9", api.OK},
	} {
		if e := show.Ready(w.s, w.task(x.text)); e != x.want {
			t.Error(x, e)
		}
		for _, change := range []func(y *api.Task){func(y *api.Task) { y.Dare = 0 }, func(y *api.Task) { y.Passes[0].Pub = 1 }} {
			y := w.task(x.text)
			change(&y)
			if e := show.Ready(w.s, y); e != api.ErrArg {
				t.Error(x, e)
			}
		}
		if e := show.Ready(api.Setup{}, w.task(x.text)); e != api.ErrArg {
			t.Error(x, e)
		}
	}
}

// P6.2, P6.5, P6.6: an error of the task comes first.
func TestTaskErrors(t *testing.T) {
	w := middle()
	for _, x := range []question{{"id.age >=", api.ErrSyntax}, {"id.shoe > 3", api.ErrName}, {"1 <= 0", api.ErrUnsat}, {"id.age <= 99", api.ErrRange}} {
		task := w.task(x.text)
		if e := show.Fits(w.s, task, nil); e != x.want {
			t.Error(x, e)
		}
		r, points, e := show.Show(w.s, task, nil, api.Coins{})
		c, f := show.Toss(w.s, task, nil, "seed")
		goal, g := show.Goal(w.s, task, api.Record{})
		if e != x.want || f != x.want || g != x.want || show.Check(w.s, task, api.Record{}) != x.want || len(points) > 0 || len(goal) > 0 || !isZeroRecord(r) || !isZeroCoins(c) {
			t.Error(x, e, f, g)
		}
	}
}

// P6.2: who fits a task with a question.
func TestFits(t *testing.T) {
	w := middle()
	task := w.task("id.age >= 6 or id.town = 3")
	for _, x := range []struct {
		attrs []int
		want  api.Errno
	}{
		{[]int{7, 6, 0}, api.OK}, {[]int{7, 2, 3}, api.OK}, {[]int{82, 10, 10}, api.OK}, {[]int{1, 0, 3}, api.OK},
		{[]int{7, 5, 2}, api.ErrUnsat}, {[]int{7, 5, 4}, api.ErrUnsat}, {[]int{7, 0, 0}, api.ErrUnsat},
		{[]int{4, 6, 0}, api.ErrRevoked}, {[]int{9, 6, 0}, api.ErrRevoked}, {[]int{10, 6, 0}, api.ErrRevoked}, {[]int{9, 5, 2}, api.ErrUnsat},
		{[]int{7, 11, 3}, api.ErrRange}, {[]int{7, 6, 11}, api.ErrRange}, {[]int{7, 82, 82}, api.ErrRange}, {[]int{9, 5, 11}, api.ErrRange}, {[]int{9, 11, 0}, api.ErrRange},
	} {
		if e := show.Fits(w.s, task, []api.Held{w.held(6, x.attrs...)}); e != x.want {
			t.Error(x, e)
		}
	}
	// Only the values of the names of the predicate must not be greater than Most; but of all of them, also those that are in constant atoms alone.
	for text, want := range map[string]api.Errno{"id.age >= 6": api.OK, "0 <= 1": api.OK, "id.age >= 6 or id.town <= id.town": api.ErrRange, "id.town > 0": api.ErrRange} {
		if e := show.Fits(w.s, w.task(text), []api.Held{w.held(6, 7, 10, 11)}); e != want {
			t.Error(text, e)
		}
	}
	none := task
	none.Revoked = nil
	if e := show.Fits(w.s, none, []api.Held{w.held(6, 4, 6, 0)}); e != api.OK {
		t.Error(e)
	}
}

// P6.2: tickets that are not the holder's, or do not lead to the challenge.
func TestFitsTickets(t *testing.T) {
	for _, w := range worlds() {
		task := w.task("0 <= 1")
		number := 7
		good := w.held(6, w.usable(number, 1)...)
		if e := show.Fits(w.s, task, []api.Held{good}); e != api.OK {
			t.Fatal(w.s, e)
		}
		fails := func(change func(x *api.Held)) {
			t.Helper()
			x := good
			x.Attrs, x.Blinding.Ys = slices.Clone(x.Attrs), slices.Clone(x.Blinding.Ys)
			change(&x)
			if e := show.Fits(w.s, task, []api.Held{x}); e != api.ErrArg {
				t.Error(w.s, x, e)
			}
		}
		q := w.s.Group.Q
		for _, n := range []int{1, q, -q, 2*q + 1} {
			for i := range good.Attrs {
				fails(func(x *api.Held) { x.Attrs[i] += n })
			}
			for i := range good.Blinding.Ys {
				fails(func(x *api.Held) { x.Blinding.Ys[i] += n })
			}
			fails(func(x *api.Held) { x.Blinding.S += n })
			fails(func(x *api.Held) { x.Ticket.R += n })
		}
		for _, n := range append(w.notExponents(), 0) {
			fails(func(x *api.Held) { x.Blinding.U = n })
		}
		for _, n := range w.notExponents() {
			fails(func(x *api.Held) { x.Blinding.V = n })
		}
		fails(func(x *api.Held) { x.Blinding.S = 0 })
		fails(func(x *api.Held) { x.Attrs = x.Attrs[:len(x.Attrs)-1] })
		fails(func(x *api.Held) { x.Attrs = append(x.Attrs, 0) })
		fails(func(x *api.Held) { x.Blinding.Ys = x.Blinding.Ys[1:] })
		fails(func(x *api.Held) { x.Blinding.Ys = append(x.Blinding.Ys, 0) })
		for i := range 5 {
			for _, n := range []int{w.s.Group.G, w.s.Group.P - 1} {
				fails(func(x *api.Held) {
					p := []*int{&x.Ticket.Mark, &x.Ticket.First, &x.Ticket.Z, &x.Ticket.A, &x.Ticket.B}[i]
					*p = w.times(*p, n)
				})
			}
		}
		fails(func(x *api.Held) { *x = api.Held{} })
		// The rest of the blinding, the limit and the window play no part.
		x := good
		x.Blinding.U, x.Blinding.V, x.Limit, x.Window = w.factor(), w.exponent(), -5, math.MaxInt
		if e := show.Fits(w.s, task, []api.Held{x}); e != api.OK {
			t.Error(w.s, x, e)
		}
		for _, l := range [][]api.Held{nil, {}, {good, good}, slices.Repeat([]api.Held{good}, 1000), {w.held(7, w.usable(number, 1)...)}} {
			if e := show.Fits(w.s, task, l); e != api.ErrArg {
				t.Error(w.s, len(l), e)
			}
		}
	}
}

// P6.2: a ticket whose First is that of other Ys, or whose Mark is that of another S, is not the holder's, even if it is valid and the spend is not accepted for another reason.
func TestFitsOwners(t *testing.T) {
	w := small()
	task := w.task("0 <= 1")
	good := w.held(6, w.usable(7, 1)...)
	ones := 0
	for s := 1; s < 11; s++ {
		for y := range 11 {
			x := good
			x.Blinding.S, x.Blinding.Ys = s, slices.Clone(x.Blinding.Ys)
			x.Blinding.Ys[1] = y
			want := w.power(ticket.Mark(w.s, x.Attrs), s) == x.Ticket.Mark && y == good.Blinding.Ys[1]
			if e := show.Fits(w.s, task, []api.Held{x}); (e == api.OK) != want || e != api.OK && e != api.ErrArg {
				t.Error(x, e)
			}
			if want {
				ones++
			}
		}
	}
	// Other Ys with the same product lead to another spend, which is accepted as well.
	x := good
	x.Blinding.Ys = slices.Clone(x.Blinding.Ys)
	x.Blinding.Ys[0], x.Blinding.Ys[1] = (x.Blinding.Ys[0]+4)%11, (x.Blinding.Ys[1]+10)%11
	if e := show.Fits(w.s, task, []api.Held{x}); e != api.OK || ones != 1 {
		t.Error(e, ones)
	}
}

// P6.2: several passes.
func TestFitsPasses(t *testing.T) {
	w := middle()
	task := w.task("id.age >= job.rank")
	task.Passes = append(task.Passes, api.Pass{Name: "job", Pub: w.key(8), Attrs: []string{"rank"}})
	a, b := w.held(6, 7, 6, 0), w.held(8, 7, 5, 50)
	for i, x := range []struct {
		held []api.Held
		want api.Errno
	}{
		{[]api.Held{a, b}, api.OK}, {[]api.Held{b, a}, api.ErrArg}, {[]api.Held{a}, api.ErrArg}, {[]api.Held{b}, api.ErrArg}, {[]api.Held{a, b, b}, api.ErrArg}, {[]api.Held{a, a}, api.ErrArg},
		{[]api.Held{a, w.held(8, 8, 5, 0)}, api.ErrOwner}, {[]api.Held{a, w.held(8, 8, 9, 0)}, api.ErrOwner}, {[]api.Held{a, w.held(8, 7, 7, 0)}, api.ErrUnsat}, {[]api.Held{a, w.held(8, 7, 11, 0)}, api.ErrRange}, {[]api.Held{a, w.held(8, 8, 11, 0)}, api.ErrOwner},
		{[]api.Held{w.held(6, 9, 6, 0), w.held(8, 9, 1, 0)}, api.ErrRevoked}, {[]api.Held{w.held(6, 9, 6, 0), w.held(8, 10, 1, 0)}, api.ErrOwner},
		{[]api.Held{a, {}}, api.ErrArg}, {[]api.Held{{}, b}, api.ErrArg},
	} {
		if e := show.Fits(w.s, task, x.held); e != x.want {
			t.Error(i, e)
		}
	}
	// With the same key, the same ticket would do for both.
	task.Passes[1].Pub = w.key(6)
	other := a
	other.Blinding.U = other.Blinding.U%82 + 1
	worse := w.held(6, 9, 99%83, 0)
	for i, x := range []struct {
		held []api.Held
		want api.Errno
	}{{[]api.Held{a, a}, api.ErrTwice}, {[]api.Held{a, other}, api.ErrTwice}, {[]api.Held{worse, worse}, api.ErrTwice}, {[]api.Held{a, w.held(6, 7, 6, 1)}, api.OK}} {
		if e := show.Fits(w.s, task, x.held); e != x.want {
			t.Error(i, e)
		}
	}
	// Two holders can have the same ticket, if it was made for both.
	alias := w.alias(t, task, a, 8, 6, 0)
	if e := show.Fits(w.s, task, []api.Held{a, alias}); e != api.ErrTwice {
		t.Error(e)
	}
	// Wherever the second one of two tickets with the same mark, or of two holders, stands.
	task.Passes = append(task.Passes, api.Pass{Name: "third", Pub: w.key(6)}, api.Pass{Name: "fourth", Pub: w.key(6)})
	l := []api.Held{a, w.held(6, 7, 1, 2), w.held(6, 7, 3, 4), w.held(6, 7, 5, 6)}
	if e := show.Fits(w.s, task, l); e != api.OK {
		t.Error(e)
	}
	for i := range l {
		for k := range i {
			m := slices.Clone(l)
			m[i] = m[k]
			if e := show.Fits(w.s, task, m); e != api.ErrTwice {
				t.Error(i, k, e)
			}
		}
		m := slices.Clone(l)
		m[i] = w.held(6, 8, 1, 2)
		if e := show.Fits(w.s, task, m); e != api.ErrOwner {
			t.Error(i, e)
		}
	}
}

// P6.3
func TestBinds(t *testing.T) {
	w := middle()
	task := w.task("id.age >= job.rank or job.a < 3 or job.a <= job.a")
	task.Passes = append(task.Passes, api.Pass{Name: "job", Pub: w.key(8), Attrs: []string{"a", "rank"}})
	held := []api.Held{{Attrs: []int{7, 6}}, {Attrs: []int{-9, 5, math.MinInt, 77}}}
	want := []api.Bind{{Name: "id.age", Value: 6}, {Name: "job.a", Value: 5}, {Name: "job.rank", Value: math.MinInt}}
	if l, ok := show.Binds(task, held); !ok || !slices.Equal(l, want) {
		t.Error(l, ok)
	}
	if l, ok := show.Binds(task, append(held, api.Held{})); !ok || !slices.Equal(l, want) {
		t.Error(l, ok)
	}
	for _, l := range [][]api.Held{nil, held[:1], {held[1], {Attrs: []int{1, 2}}}, {{Attrs: []int{7}}, held[1]}, {{}, held[1]}} {
		if b, ok := show.Binds(task, l); ok || len(b) > 0 {
			t.Error(l, b)
		}
	}
	// Nothing else of the task plays a part: here no pass is valid, and there are several with the same name.
	odd := api.Task{Question: "question q { a.b < a.c }", Passes: []api.Pass{{Name: "a"}, {Name: "b", Attrs: []string{"b"}}, {Name: "a", Attrs: []string{"x", "c", "c"}}, {Name: "a", Attrs: []string{"c", "b", "y", "b"}}, {Name: "a", Attrs: []string{"c", "b"}}}}
	l := []api.Held{{}, {}, {Attrs: []int{0, 1, 2, 3}}, {Attrs: []int{4, 5, 6}}}
	if b, ok := show.Binds(odd, l); !ok || !slices.Equal(b, []api.Bind{{Name: "a.b", Value: 6}, {Name: "a.c", Value: 2}}) {
		t.Error(b, ok)
	}
	if b, ok := show.Binds(odd, l[:3]); ok || len(b) > 0 {
		t.Error(b, ok)
	}
	if b, ok := show.Binds(api.Task{Question: "question q { 0 <= 1 }"}, nil); !ok || len(b) > 0 {
		t.Error(b, ok)
	}
	for _, x := range []string{"", "question q { a.b < 1 ", "question q { a.b < 1 } }", "question q { a.z < 1 }", "question q { a.b < 1 and z.b < 1 }", strings.Repeat(" ", 4000) + "question q { a.b < 1 }"} {
		odd.Question = x
		if b, ok := show.Binds(odd, l); ok || len(b) > 0 {
			t.Error(x, b)
		}
	}
}
