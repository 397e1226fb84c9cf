package gate_test

import (
	"math/rand/v2"
	"slices"
	"testing"

	"cloak/api"
	"cloak/gate"
)

// noEdge is the weight where there is no edge.
const noEdge = 1 << 60

// graphOf returns the weights of the edges of the constraint graph of a joined list, by the definition. The last node is the origin.
func graphOf(l []api.Entry, drift int) [][]int {
	n := len(l)
	g := make([][]int, n+1)
	for i := range g {
		g[i] = slices.Repeat([]int{noEdge}, n+1)
	}
	bound := func(a, b, w int) { g[a][b] = min(g[a][b], w) }
	for i, e := range l {
		bound(n, i, 1<<31)
		bound(i, n, 0)
		switch e.Kind {
		case api.EnSync:
			bound(n, i, e.Nums[1])
			bound(i, n, -e.Nums[0])
		case api.EnHear:
			for k, x := range l {
				if x.Gate == e.Nums[0] && x.No == e.Nums[1] {
					bound(i, k, 0)
				}
			}
		}
		if i == 0 || l[i-1].Gate != e.Gate || l[i-1].No == e.No || l[i-1].Time > e.Time {
			continue
		}
		d := e.Time - l[i-1].Time
		bound(i, i-1, -(d * (1000 - drift) / 1000))
		up := d * (1000 + drift) / 1000
		if up*1000 < d*(1000+drift) {
			up++
		}
		bound(i-1, i, up)
	}
	return g
}

// boundsOf returns the bounds of the true times, by the shortest ways between all nodes, or nothing if there are none.
func boundsOf(g [][]int) ([]api.Bound, bool) {
	n := len(g) - 1
	d := make([][]int, n+1)
	for i := range g {
		d[i] = slices.Clone(g[i])
		d[i][i] = min(0, d[i][i])
	}
	for k := range d {
		for i := range d {
			for j := range d {
				if d[i][k] != noEdge && d[k][j] != noEdge {
					d[i][j] = min(d[i][j], d[i][k]+d[k][j])
				}
			}
		}
	}
	var l []api.Bound
	for i := range d {
		if d[i][i] < 0 {
			return nil, false
		}
		if i < n {
			l = append(l, api.Bound{Low: -d[i][n], High: d[n][i]})
		}
	}
	return l, true
}

// weightOf returns the weight of a cycle, and reports whether it is one.
func weightOf(g [][]int, cycle []int) (int, bool) {
	sum := 0
	for i, a := range cycle {
		b := cycle[(i+1)%len(cycle)]
		if !within(a, 0, len(g)-1) || !within(b, 0, len(g)-1) || slices.Contains(cycle[:i], a) || g[a][b] == noEdge {
			return 0, false
		}
		sum += g[a][b]
	}
	return sum, len(cycle) > 0
}

// conflictOf returns the smallest of the shortest cycles with a negative weight, of all cycles.
func conflictOf(g [][]int) []int {
	var best, cycle []int
	var visit func()
	visit = func() {
		if len(cycle) > 0 {
			if sum, ok := weightOf(g, cycle); ok && sum < 0 && (best == nil || len(cycle) < len(best) || len(cycle) == len(best) && slices.Compare(cycle, best) < 0) {
				best = slices.Clone(cycle)
			}
			if best != nil && len(cycle) >= len(best) {
				return
			}
		}
		for next := range g {
			if slices.Contains(cycle, next) || len(cycle) > 0 && g[cycle[len(cycle)-1]][next] == noEdge {
				continue
			}
			cycle = append(cycle, next)
			visit()
			cycle = cycle[:len(cycle)-1]
		}
	}
	visit()
	return best
}

// syncAt and hearAt return signed entries.
func syncAt(t *testing.T, number, no, time, low, high int) api.Entry {
	t.Helper()
	return seal(t, middle(), api.Entry{Gate: number, No: no, Time: time, Kind: api.EnSync, Nums: []int{low, high}})
}

func hearAt(t *testing.T, number, no, time, other, what int) api.Entry {
	t.Helper()
	return seal(t, middle(), api.Entry{Gate: number, No: no, Time: time, Kind: api.EnHear, Nums: []int{other, what}})
}

// timed checks what is said of the times of a list of entries against the definitions, and returns whether there are bounds.
func timed(t *testing.T, l []api.Entry, drift int) bool {
	t.Helper()
	s := middle()
	keys := keysOf(s, 24)
	g := graphOf(joinedOf(s, keys, l), drift)
	want, ok := boundsOf(g)
	got, e := gate.Bounds(s, keys, l, drift)
	cycle := gate.Conflict(s, keys, l, drift)
	if !slices.Equal(got, want) || (e == api.OK) != ok || e != api.OK && e != api.ErrUnsat {
		t.Fatal(got, want, e, listText(l), drift)
	}
	// There is a conflict if and only if there are no bounds.
	sum, is := weightOf(g, cycle)
	if (len(cycle) > 0) == ok || len(cycle) > 0 && (!is || sum >= 0) || gate.Impossible(s, keys, l, drift, cycle) == ok {
		t.Fatal(cycle, sum, listText(l), drift)
	}
	return ok
}

// P8.13, P8.14: the examples of the document.
func TestTimeExamples(t *testing.T) {
	far := api.MaxTime
	s := middle()
	keys := keysOf(s, 2)
	l := []api.Entry{syncAt(t, 0, 0, 100, 1000, 1010), syncAt(t, 0, 1, 300, 0, far), hearAt(t, 1, 0, 50, 0, 1)}
	if b, e := gate.Bounds(s, keys, l, 100); e != api.OK || !slices.Equal(b, []api.Bound{{Low: 1000, High: 1010}, {Low: 1180, High: 1230}, {Low: 1180, High: far}}) {
		t.Error(b, e)
	}
	if c := gate.Conflict(s, keys, l, 100); len(c) > 0 {
		t.Error(c)
	}
	l[1] = syncAt(t, 0, 1, 300, 0, 1100)
	if b, e := gate.Bounds(s, keys, l, 100); e != api.ErrUnsat || len(b) > 0 {
		t.Error(b, e)
	}
	if c := gate.Conflict(s, keys, l, 100); !slices.Equal(c, []int{0, 3, 1}) || !gate.Impossible(s, keys, l, 100, c) {
		t.Error(c)
	}
}

// P8.13: each kind of bound, and where they are rounded.
func TestBounds(t *testing.T) {
	far := api.MaxTime
	s := middle()
	keys := keysOf(s, 24)
	for i, c := range []struct {
		l     []api.Entry
		drift int
		want  []api.Bound
	}{
		{nil, 0, nil},
		{[]api.Entry{syncAt(t, 0, 0, 7, 0, far)}, 0, []api.Bound{{Low: 0, High: far}}}, {[]api.Entry{syncAt(t, 0, 0, 7, 3, 4)}, 0, []api.Bound{{Low: 3, High: 4}}}, {[]api.Entry{hearAt(t, 0, 0, 7, 1, 1)}, 0, []api.Bound{{Low: 0, High: far}}},
		{[]api.Entry{syncAt(t, 0, 0, 0, 5, 5), syncAt(t, 0, 3, 1, 0, far)}, 999, []api.Bound{{Low: 5, High: 5}, {Low: 5, High: 7}}}, {[]api.Entry{syncAt(t, 0, 0, 0, 5, 5), syncAt(t, 0, 3, 1, 0, far)}, 1, []api.Bound{{Low: 5, High: 5}, {Low: 5, High: 7}}}, {[]api.Entry{syncAt(t, 0, 0, 0, 5, 5), syncAt(t, 0, 3, 1, 0, far)}, 0, []api.Bound{{Low: 5, High: 5}, {Low: 6, High: 6}}},
		{[]api.Entry{syncAt(t, 0, 0, 0, 5, 5), syncAt(t, 0, 1, 1000, 0, far)}, 1000, []api.Bound{{Low: 5, High: 5}, {Low: 5, High: 2005}}}, {[]api.Entry{syncAt(t, 0, 0, 0, 5, 5), syncAt(t, 0, 1, 1000, 0, far)}, 1, []api.Bound{{Low: 5, High: 5}, {Low: 1004, High: 1006}}}, {[]api.Entry{syncAt(t, 0, 0, 0, 5, 5), syncAt(t, 0, 1, 1001, 0, far)}, 1, []api.Bound{{Low: 5, High: 5}, {Low: 1004, High: 1008}}},
		{[]api.Entry{syncAt(t, 0, 0, 0, 0, far), syncAt(t, 0, 1, far, 0, far)}, 1000, []api.Bound{{Low: 0, High: far}, {Low: 0, High: far}}}, {[]api.Entry{syncAt(t, 0, 0, 0, 0, far), syncAt(t, 0, 1, far, 0, far)}, 0, []api.Bound{{Low: 0, High: 0}, {Low: far, High: far}}}, {[]api.Entry{syncAt(t, 0, 0, 0, 0, far), syncAt(t, 0, 1, far, 0, far)}, 500, []api.Bound{{Low: 0, High: far / 2}, {Low: far / 2, High: far}}},
		// A clock that went backward says nothing; nor do two entries with one number, or of two gates.
		{[]api.Entry{syncAt(t, 0, 0, 9, 5, 6), syncAt(t, 0, 1, 3, 0, far)}, 0, []api.Bound{{Low: 5, High: 6}, {Low: 0, High: far}}}, {[]api.Entry{syncAt(t, 0, 1, 3, 5, 6), syncAt(t, 0, 1, 9, 0, far)}, 0, []api.Bound{{Low: 5, High: 6}, {Low: 0, High: far}}}, {[]api.Entry{syncAt(t, 0, 0, 3, 5, 6), syncAt(t, 1, 1, 9, 0, far)}, 0, []api.Bound{{Low: 5, High: 6}, {Low: 0, High: far}}},
		{[]api.Entry{syncAt(t, 0, 0, 0, 5, 5), syncAt(t, 0, 3, 10, 0, far)}, 0, []api.Bound{{Low: 5, High: 5}, {Low: 15, High: 15}}}, {[]api.Entry{syncAt(t, 0, 0, 3, 5, 5), syncAt(t, 0, 7, 3, 0, far)}, 900, []api.Bound{{Low: 5, High: 5}, {Low: 5, High: 5}}},
		// What was heard was not later; all entries with the number count.
		{[]api.Entry{syncAt(t, 0, 4, 0, 5, 9), hearAt(t, 1, 0, 0, 0, 4)}, 0, []api.Bound{{Low: 5, High: 9}, {Low: 5, High: far}}}, {[]api.Entry{syncAt(t, 0, 4, 0, 5, 9), hearAt(t, 1, 0, 0, 0, 3)}, 0, []api.Bound{{Low: 5, High: 9}, {Low: 0, High: far}}}, {[]api.Entry{syncAt(t, 0, 4, 0, 5, 9), syncAt(t, 0, 4, 0, 6, 8), hearAt(t, 1, 0, 0, 0, 4)}, 0, []api.Bound{{Low: 5, High: 9}, {Low: 6, High: 8}, {Low: 6, High: far}}},
		{[]api.Entry{hearAt(t, 0, 0, 0, 1, 0), syncAt(t, 1, 0, 0, 5, 9), syncAt(t, 0, 1, 0, 0, 7)}, 0, []api.Bound{{Low: 5, High: 7}, {Low: 5, High: 7}, {Low: 5, High: 7}}},
		{[]api.Entry{hearAt(t, 0, 0, 0, 1, 0), hearAt(t, 1, 0, 0, 0, 0), syncAt(t, 1, 1, 3, 10, 20)}, 0, []api.Bound{{Low: 7, High: 17}, {Low: 7, High: 17}, {Low: 10, High: 20}}},
	} {
		got, e := gate.Bounds(s, keys, c.l, c.drift)
		if e != api.OK || !slices.Equal(got, c.want) || !timed(t, c.l, c.drift) {
			t.Error(i, got, e)
		}
	}
}

// P8.13, P8.14: arguments with which there are no bounds, and no conflict.
func TestTimeErrors(t *testing.T) {
	s := middle()
	keys := keysOf(s, 2)
	l := []api.Entry{syncAt(t, 0, 0, 0, 5, 5), syncAt(t, 0, 1, 0, 3, 3)}
	cycle := gate.Conflict(s, keys, l, 0)
	if !slices.Equal(cycle, []int{0, 2, 1}) {
		t.Fatal(cycle)
	}
	none := func(s api.Setup, drift int) {
		t.Helper()
		if b, e := gate.Bounds(s, keys, l, drift); e != api.ErrArg || len(b) > 0 || len(gate.Conflict(s, keys, l, drift)) > 0 || gate.Impossible(s, keys, l, drift, cycle) {
			t.Error(s, drift, b, e)
		}
	}
	for _, drift := range []int{-1, 1001, ints[0], 1 << 62} {
		none(s, drift)
	}
	for _, not := range notSetups() {
		none(not, 0)
	}
	// Entries that are not signed say nothing.
	if b, e := gate.Bounds(s, keys[1:], l, 0); e != api.OK || len(b) > 0 || len(gate.Conflict(s, nil, l, 0)) > 0 || gate.Impossible(s, nil, l, 0, cycle) {
		t.Error(b, e)
	}
}

// P8.14: lists of nodes, some of which are cycles with a negative weight.
func TestImpossible(t *testing.T) {
	s := middle()
	keys := keysOf(s, 2)
	l := []api.Entry{syncAt(t, 0, 0, 0, 5, 5), hearAt(t, 1, 0, 0, 0, 0), syncAt(t, 1, 1, 0, 3, 3)}
	for i, c := range []struct {
		cycle []int
		want  bool
	}{
		{[]int{0, 3, 2, 1}, true}, {[]int{3, 2, 1, 0}, true}, {[]int{2, 1, 0, 3}, true}, {[]int{1, 2, 3, 0}, false}, {[]int{0, 3, 1}, false}, {[]int{1, 0, 3}, false}, {[]int{0, 3, 2}, false}, {[]int{3, 2, 0}, false}, {[]int{0, 3}, false}, {[]int{3, 0}, false}, {[]int{1, 2}, false},
		{nil, false}, {[]int{}, false}, {[]int{3}, false}, {[]int{0}, false}, {[]int{0, 0}, false}, {[]int{0, 3, 2, 1, 0}, false}, {[]int{0, 3, 2, 1, 0, 3, 2, 1}, false}, {[]int{0, 4}, false}, {[]int{4, 0}, false}, {[]int{-1, 3}, false}, {[]int{3, -1}, false}, {[]int{ints[0], 3}, false}, {[]int{0, 3, 2, 1, 1 << 62}, false},
	} {
		if got := gate.Impossible(s, keys, l, 0, c.cycle); got != c.want {
			t.Error(i, got)
		}
	}
	if c := gate.Conflict(s, keys, l, 0); !slices.Equal(c, []int{0, 3, 2, 1}) {
		t.Error(c)
	}
}

// P8.14: of two ways through the entries with one number, the smaller one leads to the weight 0, which is not negative.
func TestConflictZero(t *testing.T) {
	s := middle()
	keys := keysOf(s, 2)
	l := []api.Entry{hearAt(t, 0, 0, 0, 1, 0), syncAt(t, 0, 1, 0, 0, 5), syncAt(t, 1, 0, 0, 5, 9), syncAt(t, 1, 0, 0, 6, 9)}
	if c := gate.Conflict(s, keys, l, 0); !slices.Equal(c, []int{0, 3, 4, 1}) {
		t.Error(c)
	}
	if gate.Impossible(s, keys, l, 0, []int{0, 2, 4, 1}) || !gate.Impossible(s, keys, l, 0, []int{0, 3, 4, 1}) {
		t.Error("impossible")
	}
	l[3] = syncAt(t, 1, 0, 0, 5, 9)
	if c := gate.Conflict(s, keys, l, 0); len(c) > 0 || !timed(t, l, 0) {
		t.Error(c)
	}
}

// anyTimes returns a few entries of up to three gates, with times that contradict each other or not.
func anyTimes(t *testing.T, r *rand.Rand, most, span int) []api.Entry {
	t.Helper()
	var l []api.Entry
	for number := range 3 {
		now := 0
		for no := range r.IntN(most/3 + 2) {
			if now += r.IntN(span); r.IntN(9) == 0 {
				now -= r.IntN(now + 1)
			}
			low := r.IntN(4 * span)
			e := syncAt(t, number, no, now, 0, api.MaxTime)
			switch r.IntN(5) {
			case 0:
				e = syncAt(t, number, no, now, low, low+r.IntN(2*span))
			case 1, 2:
				e = hearAt(t, number, no, now, (number+1+r.IntN(2))%3, r.IntN(most/3+1))
			}
			l = append(l, e)
			if r.IntN(15) == 0 {
				l = append(l, syncAt(t, number, no, now+r.IntN(9), low, api.MaxTime))
			}
		}
	}
	return shuffled(r, l, 1)
}

// P8.13, P8.14, P8.21: random lists of a few entries, for which all cycles are compared.
func TestConflictAny(t *testing.T) {
	r, s := random(), middle()
	keys := keysOf(s, 3)
	lengths := map[int]int{}
	for range 2500 {
		l := anyTimes(t, r, 8, 10)
		drift := []int{0, 0, 100, 333, 1000}[r.IntN(5)]
		timed(t, l, drift)
		want := conflictOf(graphOf(joinedOf(s, keys, l), drift))
		if got := gate.Conflict(s, keys, l, drift); !slices.Equal(got, want) {
			t.Fatal(got, want, listText(l), drift)
		}
		lengths[len(want)]++
	}
	for _, n := range []int{0, 3, 4, 5, 6} {
		if lengths[n] < 10 {
			t.Error(n, lengths)
		}
	}
}

// P8.14: rings of gates that have heard of each other, where the origin is on no cycle with a negative weight, or on a longer one.
func TestConflictRings(t *testing.T) {
	r, s := random(), middle()
	keys := keysOf(s, 4)
	lengths := map[int]int{}
	for range 600 {
		var l []api.Entry
		n := 2 + r.IntN(2)
		for number := range n {
			steps := 1 + r.IntN(3)
			l = append(l, hearAt(t, number, 0, 0, (number+1)%n, r.IntN(steps+1)))
			for no := range steps {
				l = append(l, syncAt(t, number, 1+no, 3*(1+no)*r.IntN(2), 0, []int{api.MaxTime, api.MaxTime, 2}[r.IntN(3)]))
			}
		}
		drift := []int{0, 400, 1000}[r.IntN(3)]
		want := conflictOf(graphOf(joinedOf(s, keys, l), drift))
		if got := gate.Conflict(s, keys, l, drift); !slices.Equal(got, want) {
			t.Fatal(got, want, listText(l), drift)
		}
		timed(t, l, drift)
		lengths[len(want)]++
	}
	for n := range 7 {
		if n != 1 && n != 2 && lengths[n] < 5 {
			t.Error(n, lengths)
		}
	}
}

// P8.13, P8.14, P8.21: longer lists, against the shortest ways between all nodes. Each end of the bounds is the true time in some assignment: all least ones together satisfy all bounds, and so do all greatest ones.
func TestBoundsAny(t *testing.T) {
	r, s := random(), middle()
	keys := keysOf(s, 3)
	satisfied, conflicts := 0, 0
	for range 250 {
		l := anyTimes(t, r, 30, 30)
		if r.IntN(2) == 0 {
			l = filterHearing(l)
		}
		drift := []int{0, 10, 250, 1000}[r.IntN(4)]
		if !timed(t, l, drift) {
			conflicts++
			continue
		}
		satisfied++
		g := graphOf(joinedOf(s, keys, l), drift)
		bounds, _ := gate.Bounds(s, keys, l, drift)
		for _, end := range []func(b api.Bound) int{func(b api.Bound) int { return b.Low }, func(b api.Bound) int { return b.High }} {
			times := []int{}
			for _, b := range bounds {
				times = append(times, end(b))
			}
			times = append(times, 0)
			for a := range g {
				for b, w := range g[a] {
					if times[b]-times[a] > w {
						t.Fatal(listText(l), bounds)
					}
				}
			}
		}
	}
	if satisfied < 30 || conflicts < 30 {
		t.Error(satisfied, conflicts)
	}
}

// filterHearing returns a list without most of what was heard.
func filterHearing(l []api.Entry) []api.Entry {
	return slices.DeleteFunc(l, func(e api.Entry) bool {
		return e.Kind == api.EnHear && e.No%4 > 0 || e.Kind == api.EnSync && e.Nums[1] < api.MaxTime && e.No%5 > 0
	})
}

// P8.13, P8.14: a log with as many entries as possible, in which only the first and the last one contradict each other; and two that have heard of each other.
func TestLongTimes(t *testing.T) {
	s := middle()
	keys := keysOf(s, 2)
	var l []api.Entry
	for no := range 4096 {
		l = append(l, syncAt(t, 0, no, 2*no, 0, api.MaxTime))
	}
	l[0], l[4095] = syncAt(t, 0, 0, 0, 0, 7), syncAt(t, 0, 4095, 8190, 8190, 8190)
	if b, e := gate.Bounds(s, keys, l, 0); e != api.OK || b[1000] != (api.Bound{Low: 2000, High: 2000}) || len(gate.Conflict(s, keys, l, 0)) > 0 {
		t.Error(e)
	}
	l[4095] = syncAt(t, 0, 4095, 8190, 8198, 8199)
	want := []int{0}
	for no := range 4094 {
		want = append(want, 1+no)
	}
	want = append(want, 4095, 4096)
	if _, e := gate.Bounds(s, keys, l, 0); e != api.ErrUnsat {
		t.Error(e)
	}
	if got := gate.Conflict(s, keys, l, 0); !slices.Equal(got, want) || !gate.Impossible(s, keys, l, 0, got) {
		t.Error(len(got))
	}
	var m []api.Entry
	for number := range 2 {
		m = append(m, hearAt(t, number, 0, 0, 1-number, 1999))
		for no := range 1999 {
			m = append(m, syncAt(t, number, 1+no, (1+no)/1999, 0, api.MaxTime))
		}
	}
	// Both have heard of an entry of the other one that is later than what they have told.
	want = []int{0}
	for no := range 2000 {
		want = append(want, 3999-no)
	}
	for no := range 1999 {
		want = append(want, 1999-no)
	}
	if got := gate.Conflict(s, keys, m, 0); !slices.Equal(got, want) {
		t.Error(len(got))
	}
}
