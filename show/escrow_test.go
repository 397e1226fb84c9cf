package show_test

import (
	"math"
	"math/big"
	"slices"
	"testing"

	"cloak/api"
	"cloak/show"
)

// example is the setup of the document's examples: Blind is 4^5 = 12.
func example() *world { return made(api.Group{P: 23, Q: 11, G: 4}, 5, 2, 3) }

// P6.9, P6.10, P6.11: the document's examples.
func TestEscrowExample(t *testing.T) {
	s := example().s
	escrow, points, ok := show.Deal(s, 3, 2, []int{5}, []int{1}, 2)
	if !ok || !same(escrow, []int{6}) || !same(points, []api.Point{{Juror: 1, Share: 8, Mask: 3}, {Juror: 2, Share: 2, Mask: 4}}) {
		t.Error(escrow, points, ok)
	}
	if !show.CheckPoint(s, 16, []int{6}, api.Point{Juror: 1, Share: 8, Mask: 3}) {
		t.Error("the first point")
	}
	if n, b, e := show.Open(s, 16, []int{6}, points); n != 3 || b != 2 || e != api.OK {
		t.Error(n, b, e)
	}
}

// P6.9, P6.10, P6.11, P6.17: any escrows: as many points as the quorum open the number, whichever they are.
func TestEscrow(t *testing.T) {
	for _, w := range worlds() {
		for range 40 {
			jurors := 1 + w.IntN(min(api.MaxJurors, w.s.Group.Q-1))
			n := w.IntN(jurors)
			number, blind, shares, masks := w.exponent(), w.exponent(), w.several(n), w.several(n)
			escrow, points, ok := show.Deal(w.s, number, blind, shares, masks, jurors)
			var want []int
			for i, s := range shares {
				want = append(want, w.commit(s, masks[i]))
			}
			if !ok || !same(escrow, want) || !same(points, w.pointsOf(number, blind, shares, masks, jurors)) {
				t.Fatal(w.s, number, blind, shares, masks, jurors, escrow, points)
			}
			commit := w.commit(number, blind)
			for _, p := range points {
				if !show.CheckPoint(w.s, commit, escrow, p) {
					t.Error(w.s, commit, escrow, p)
				}
			}
			w.Shuffle(jurors, func(i, k int) { points[i], points[k] = points[k], points[i] })
			for k := range jurors + 1 {
				got, b, e := show.Open(w.s, commit, escrow, points[:k])
				if k <= n {
					if got != 0 || b != 0 || e != api.ErrQuorum {
						t.Error(w.s, points[:k], got, b, e)
					}
				} else if got != number || b != blind || e != api.OK {
					t.Error(w.s, points[:k], number, blind, got, b, e)
				}
			}
		}
	}
}

// P6.9: arguments that are not valid.
func TestDealErrors(t *testing.T) {
	fails := func(s api.Setup, number, blind int, shares, masks []int, jurors int) {
		t.Helper()
		if escrow, points, ok := show.Deal(s, number, blind, shares, masks, jurors); ok || len(escrow) > 0 || len(points) > 0 {
			t.Error(s, number, blind, shares, masks, jurors, escrow, points)
		}
	}
	for _, w := range worlds() {
		for _, x := range w.notExponents() {
			fails(w.s, x, 1, []int{1}, []int{1}, 2)
			fails(w.s, 1, x, []int{1}, []int{1}, 2)
			fails(w.s, 1, 1, []int{1, x}, []int{1, 1}, 3)
			fails(w.s, 1, 1, []int{1, 1}, []int{1, x}, 3)
			fails(w.s, x, 1, nil, nil, 2)
		}
		for _, x := range []struct{ shares, masks, jurors int }{{1, 0, 3}, {0, 1, 3}, {2, 1, 3}, {1, 2, 3}, {0, 0, 0}, {0, 0, -1}, {1, 1, 1}, {1, 1, 0}, {3, 3, 2}, {0, 0, 13}, {12, 12, 12}, {12, 12, 13}, {0, 0, math.MaxInt}, {0, 0, math.MinInt}, {1, 1, math.MinInt}, {1 << 16, 1 << 16, 1<<16 + 1}} {
			fails(w.s, 1, 2, make([]int, x.shares), make([]int, x.masks), x.jurors)
		}
		for n := 1; n <= 12; n++ {
			_, points, ok := show.Deal(w.s, 0, 0, make([]int, n-1), make([]int, n-1), n)
			if want := n < w.s.Group.Q; ok != want || ok && len(points) != n || !ok && len(points) > 0 {
				t.Error(w.s, n, ok, points)
			}
		}
	}
	for _, s := range notSetups() {
		fails(s, 1, 2, nil, nil, 1)
	}
	// Tasks need a greater group than escrows.
	s := made(api.Group{P: 11, Q: 5, G: 4}, 3, 1, 2).s
	if _, points, ok := show.Deal(s, 1, 2, nil, nil, 4); !ok || len(points) != 4 {
		t.Error(points, ok)
	}
	fails(s, 1, 2, nil, nil, 5)
}

// P6.10: all points of a small group.
func TestCheckPointAll(t *testing.T) {
	w := example()
	for _, escrow := range [][]int{nil, {6}, {1}, {12, 3}, {2, 1, 13, 4}} {
		for _, commit := range []int{1, 16, 18} {
			for juror := -1; juror <= 13; juror++ {
				log, power := w.logarithm(4, commit), 1
				for _, x := range escrow {
					power = w.mul(power, juror)
					log = w.sum(log, w.mul(power, w.logarithm(4, x)))
				}
				for share := -1; share <= 12; share++ {
					for mask := -1; mask <= 12; mask++ {
						want := juror >= 1 && juror <= 10 && share >= 0 && share <= 10 && mask >= 0 && mask <= 10 && w.sum(share, 5*mask, -log) == 0
						if got := show.CheckPoint(w.s, commit, escrow, api.Point{Juror: juror, Share: share, Mask: mask}); got != want {
							t.Error(commit, escrow, juror, share, mask, got)
						}
					}
				}
			}
		}
	}
}

// P6.10: arguments that are not valid, for a point that is right otherwise.
func TestCheckPointErrors(t *testing.T) {
	for _, w := range worlds() {
		number, blind, shares, masks := w.exponent(), w.exponent(), w.several(3), w.several(3)
		escrow, points, _ := show.Deal(w.s, number, blind, shares, masks, 10)
		commit := w.commit(number, blind)
		for _, n := range w.notElements() {
			if n != commit && show.CheckPoint(w.s, n, escrow, points[4]) {
				t.Error(w.s, n)
			}
			for i := range escrow {
				bad := slices.Clone(escrow)
				bad[i] = n
				if show.CheckPoint(w.s, commit, bad, points[4]) {
					t.Error(w.s, n, i)
				}
			}
		}
		for _, n := range []int{w.s.Group.P, -w.s.Group.P} {
			bad := slices.Clone(escrow)
			bad[1] += n
			if show.CheckPoint(w.s, commit+n, escrow, points[4]) || show.CheckPoint(w.s, commit, bad, points[4]) {
				t.Error(w.s, n)
			}
		}
		for _, n := range []int{w.s.Group.Q, -w.s.Group.Q} {
			for _, f := range []func(p *api.Point) *int{func(p *api.Point) *int { return &p.Juror }, func(p *api.Point) *int { return &p.Share }, func(p *api.Point) *int { return &p.Mask }} {
				bad := points[4]
				*f(&bad) += n
				if show.CheckPoint(w.s, commit, escrow, bad) {
					t.Error(w.s, bad)
				}
			}
		}
		// The escrow of 11 elements may be checked, one of 12 not; nor may jurors be greater than 12, even if their share is right.
		q := w.s.Group.Q
		for n := range 14 {
			for _, juror := range []int{1, 3, 11, 12, 13, 100} {
				p := api.Point{Juror: juror, Share: w.exponent(), Mask: w.exponent()}
				long := w.elements(n)
				c, power := w.commit(p.Share, p.Mask), 1
				for _, x := range long {
					power = w.mul(power, juror)
					c = w.over(c, w.power(x, power))
				}
				if got, want := show.CheckPoint(w.s, c, long, p), n < 12 && juror <= 12 && juror < q; got != want {
					t.Error(w.s, n, juror, got)
				}
			}
		}
	}
	for _, s := range notSetups() {
		if show.CheckPoint(s, 4, nil, api.Point{Juror: 1}) || show.CheckPoint(s, 1, nil, api.Point{Juror: 1}) {
			t.Error(s)
		}
	}
	if show.CheckPoint(example().s, 16, make([]int, 1<<20), api.Point{Juror: 1, Share: 8, Mask: 3}) {
		t.Error("an endless escrow")
	}
}

// P6.10: the powers of jurors are great.
func TestCheckPointPowers(t *testing.T) {
	w := large()
	escrow := w.elements(11)
	c := w.element()
	x := new(big.Int).SetInt64(int64(c))
	p := big.NewInt(int64(w.s.Group.P))
	for j, e := range escrow {
		power := new(big.Int).Exp(big.NewInt(12), big.NewInt(int64(j+1)), nil)
		x.Mod(x.Mul(x, new(big.Int).Exp(big.NewInt(int64(e)), power, p)), p)
	}
	// The commitment to a share with the mask 5 is x, where x / Blind^5 takes the place of the first element of the escrow.
	share, mask := w.exponent(), w.exponent()
	c = w.times(c, w.over(w.commit(share, mask), int(x.Int64())))
	if !show.CheckPoint(w.s, c, escrow, api.Point{Juror: 12, Share: share, Mask: mask}) {
		t.Error("a great power")
	}
}

// P6.11, P2: the errors, and their order.
func TestOpenErrors(t *testing.T) {
	w := example()
	s := w.s
	// The commitment 16 is that to 3 with the blind 2, and the escrow that to 5 with the blind 1.
	points := w.pointsOf(3, 2, []int{5}, []int{1}, 10)
	bad := api.Point{Juror: 4, Share: points[3].Share + 1, Mask: points[3].Mask}
	forged := func(p api.Point) api.Point { // another way to open the same commitment
		return api.Point{Juror: p.Juror, Share: w.sum(p.Share, 5), Mask: w.sum(p.Mask, -1)}
	}
	for i, x := range []struct {
		points []api.Point
		want   api.Errno
	}{
		{nil, api.ErrQuorum}, {points[:1], api.ErrQuorum}, {points[:2], api.OK}, {points[4:6], api.OK}, {points, api.OK},
		{[]api.Point{bad}, api.ErrArg}, {[]api.Point{points[0], bad}, api.ErrArg}, {[]api.Point{bad, bad, points[0]}, api.ErrArg}, {[]api.Point{points[0], points[0], bad}, api.ErrArg}, {[]api.Point{points[0], points[1], {}}, api.ErrArg},
		{[]api.Point{points[0], points[0]}, api.ErrTwice}, {[]api.Point{points[0], points[1], points[0]}, api.ErrTwice}, {[]api.Point{points[0], forged(points[0])}, api.ErrTwice}, {[]api.Point{points[0], points[1], forged(points[2]), points[2]}, api.ErrTwice}, {slices.Repeat(points[:1], 1<<10), api.ErrTwice},
		{[]api.Point{forged(points[0])}, api.ErrQuorum},
		{[]api.Point{points[0], points[1], forged(points[2])}, api.ErrFork}, {[]api.Point{forged(points[0]), points[1], points[2]}, api.ErrFork}, {[]api.Point{points[0], points[1], points[2], points[3], forged(points[9])}, api.ErrFork}, {[]api.Point{forged(points[0]), forged(points[1]), points[2]}, api.ErrFork},
	} {
		n, b, e := show.Open(s, 16, []int{6}, x.points)
		if e != x.want || e != api.OK && (n != 0 || b != 0) || e == api.OK && (n != 3 || b != 2) {
			t.Error(i, x, n, b, e)
		}
	}
	// Two points with forged ones among them lie on polynomials that lead to another number with the same commitment.
	n, b, e := show.Open(s, 16, []int{6}, []api.Point{points[0], forged(points[1])})
	if e != api.OK || n == 3 || w.commit(n, b) != 16 {
		t.Error(n, b, e)
	}
	// If all points are forged in the same way, the numbers are too.
	if n, b, e := show.Open(s, 16, []int{6}, []api.Point{forged(points[0]), forged(points[1]), forged(points[2])}); n != 8 || b != 1 || e != api.OK {
		t.Error(n, b, e)
	}
	for _, s := range notSetups() {
		if n, b, e := show.Open(s, 16, []int{6}, points[:2]); n != 0 || b != 0 || e != api.ErrArg {
			t.Error(s, n, b, e)
		}
		if n, b, e := show.Open(s, 16, []int{6}, nil); n != 0 || b != 0 || e != api.ErrQuorum {
			t.Error(s, n, b, e)
		}
	}
	// Without an escrow each point has the number.
	if n, b, e := show.Open(s, 16, nil, []api.Point{{Juror: 4, Share: 3, Mask: 2}, {Juror: 9, Share: 3, Mask: 2}}); n != 3 || b != 2 || e != api.OK {
		t.Error(n, b, e)
	}
	if n, b, e := show.Open(s, 16, nil, []api.Point{{Juror: 4, Share: 3, Mask: 2}, {Juror: 9, Share: 8, Mask: 1}}); n != 0 || b != 0 || e != api.ErrFork {
		t.Error(n, b, e)
	}
}

// P6.11: if only the shares, or only the masks, do not lie on a polynomial, there is none either. (In a valid setup both do or neither does.)
func TestOpenForged(t *testing.T) {
	for _, w := range worlds() {
		for range 30 {
			n := 1 + w.IntN(4)
			number, blind, shares, masks := w.exponent(), w.exponent(), w.several(n), w.several(n)
			escrow, points, _ := show.Deal(w.s, number, blind, shares, masks, 9)
			by := w.factor()
			i := w.IntN(9)
			points[i].Share, points[i].Mask = w.sum(points[i].Share, w.mul(by, w.m.Blind)), w.sum(points[i].Mask, -by)
			commit := w.commit(number, blind)
			for k := n + 1; k <= 9; k++ {
				got, b, e := show.Open(w.s, commit, escrow, points[:k])
				switch {
				case i >= k:
					if got != number || b != blind || e != api.OK {
						t.Error(w.s, points[:k], i, got, b, e)
					}
				case k == n+1:
					if e != api.OK || got == number || w.commit(got, b) != commit {
						t.Error(w.s, points[:k], i, got, b, e)
					}
				default:
					if got != 0 || b != 0 || e != api.ErrFork {
						t.Error(w.s, points[:k], i, got, b, e)
					}
				}
			}
		}
	}
}

// P6.17: in a small group: with one point less than the quorum, each number is possible by exactly one choice of shares and masks.
func TestEscrowSecrecy(t *testing.T) {
	w := example()
	// Two points of a quorum of three, with two shares; the blinds belong to the numbers by the commitment.
	escrow, points, _ := show.Deal(w.s, 3, 2, []int{5, 9}, []int{1, 7}, 4)
	for number := range 11 {
		blind := w.mul(w.sum(w.logarithm(4, w.commit(3, 2)), -number), w.invert(5))
		found := 0
		for _, shares := range w.tuples(2) {
			masks := []int{0, 0}
			for i, s := range shares {
				masks[i] = w.mul(w.sum(w.logarithm(4, escrow[i]), -s), w.invert(5))
			}
			if e, l, ok := show.Deal(w.s, number, blind, shares, masks, 4); ok && same(e, escrow) && l[1] == points[1] && l[3] == points[3] {
				found++
			}
		}
		if found != 1 {
			t.Error(number, found)
		}
	}
}

// P6.17: accepted points that do not lie on one polynomial reveal the exponent of Blind; all three points of a small group.
func TestEscrowForks(t *testing.T) {
	w := example()
	commit, escrow := 16, []int{6}
	accepted := make([][]api.Point, 4)
	for juror := 1; juror <= 3; juror++ {
		for _, n := range w.tuples(2) {
			if p := (api.Point{Juror: juror, Share: n[0], Mask: n[1]}); show.CheckPoint(w.s, commit, escrow, p) {
				accepted[juror] = append(accepted[juror], p)
			}
		}
	}
	forks, opened := 0, 0
	for _, a := range accepted[1] {
		for _, b := range accepted[2] {
			for _, c := range accepted[3] {
				// The value at 3 of the line through the points at 1 and 2.
				share, mask := w.sum(2*b.Share, -a.Share), w.sum(2*b.Mask, -a.Mask)
				n, r, e := show.Open(w.s, commit, escrow, []api.Point{a, b, c})
				if share == c.Share && mask == c.Mask {
					opened++
					if e != api.OK || n != w.sum(2*a.Share, -b.Share) || r != w.sum(2*a.Mask, -b.Mask) || w.commit(n, r) != commit {
						t.Error(a, b, c, n, r, e)
					}
					continue
				}
				forks++
				if e != api.ErrFork || n != 0 || r != 0 || mask == c.Mask || w.mul(w.sum(share, -c.Share), w.invert(w.sum(c.Mask, -mask))) != 5 {
					t.Error(a, b, c, n, r, e)
				}
			}
		}
	}
	if opened != 121 || forks != 1331-121 {
		t.Error(opened, forks)
	}
}

// P6.8: the document's example, and the definition.
func TestWitness(t *testing.T) {
	if n := show.Witness(11, 5, []int{3, 9}); n != 3 {
		t.Error(n)
	}
	if n := show.Update(11, 3, 5, []int{1, 5}); n != 0 {
		t.Error(n)
	}
	for _, q := range append(hostile, 3, 5, 9, 15, 1<<61-2) {
		for _, number := range hostile {
			if n, want := show.Witness(q, number, nil), 1; q < 1 || q >= 1<<61 {
				if n != 0 || show.Update(q, 1, number, nil) != 0 {
					t.Error(q, number, n)
				}
			} else if n != want%q {
				t.Error(q, number, n)
			}
			for _, x := range hostile {
				for _, y := range []int{0, 7, math.MinInt, math.MaxInt, 1 << 61} {
					got, updated := show.Witness(q, number, []int{x, y}), show.Update(q, y, number, []int{x})
					var want, again int
					if q >= 1 && q < 1<<61 {
						n := big.NewInt(int64(number))
						a := new(big.Int).Sub(n, big.NewInt(int64(x)))
						want = int(new(big.Int).Mod(new(big.Int).Mul(a, new(big.Int).Sub(n, big.NewInt(int64(y)))), big.NewInt(int64(q))).Int64())
						again = int(new(big.Int).Mod(new(big.Int).Mul(a, big.NewInt(int64(y))), big.NewInt(int64(q))).Int64())
					}
					if got != want || updated != again {
						t.Error(q, number, x, y, got, want, updated, again)
					}
				}
			}
		}
	}
}

// P6.8, P6.18: parts of a log in any order; the witness is 0 exactly if the number was revoked.
func TestUpdates(t *testing.T) {
	for _, w := range worlds() {
		q := w.s.Group.Q
		revoked := 0
		for range 300 {
			log := w.several(w.IntN(8))
			number := w.exponent()
			if w.IntN(3) == 0 && len(log) > 0 {
				number = log[w.IntN(len(log))]
			}
			want := show.Witness(q, number, log)
			if (want == 0) != slices.Contains(log, number) {
				t.Error(q, number, log, want)
			}
			if want == 0 {
				revoked++
			}
			w.Shuffle(len(log), func(i, k int) { log[i], log[k] = log[k], log[i] })
			cut := w.IntN(len(log) + 1)
			at := cut + w.IntN(len(log)-cut+1)
			got := show.Witness(q, number, log[:cut])
			got = show.Update(q, got, number, log[at:])
			got = show.Update(q, got, number, log[cut:at])
			if got != want {
				t.Error(q, number, log, cut, at, got, want)
			}
		}
		if revoked < 30 {
			t.Error(revoked)
		}
	}
}
