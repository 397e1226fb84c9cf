package ticket_test

import (
	"crypto/sha256"
	"fmt"
	"math"
	"math/big"
	"math/rand/v2"
	"slices"
	"strings"
	"testing"

	"cloak/api"
	"cloak/field"
	"cloak/proof"
	"cloak/ticket"
)

// tiny is a setup in which everything can be listed. The mark of the attribute 2 is 1 there.
var tinyMirror = api.Mirror{Bases: []int{1, 2}, Blind: 3}
var tiny = api.Setup{Group: api.Group{P: 11, Q: 5, G: 4}, Bases: []int{4, 5}, Blind: 9}

// small is the setup of the document's examples.
var smallMirror = api.Mirror{Bases: []int{1, 2, 3}, Blind: 4}
var small = api.Setup{Group: api.Group{P: 23, Q: 11, G: 4}, Bases: []int{4, 16, 18}, Blind: 3}

// odd is a setup whose generator is not 4, with as many bases as possible, two of which are equal.
var oddMirror = api.Mirror{Bases: []int{9, 9, 1, 10, 6, 7, 4}, Blind: 1}
var odd = api.Setup{Group: api.Group{P: 23, Q: 11, G: 9}, Bases: []int{2, 2, 9, 18, 3, 4, 6}, Blind: 9}

// large is a setup in the greatest group with the generator 4. No two hashes happen to be equal there.
var largeMirror = api.Mirror{Bases: []int{100000000000000007, 150094635296999121, 200000000000000003}, Blind: 298023223876953125}
var large = api.Setup{
	Group: api.Group{P: 2305843009213691579, Q: 1152921504606845789, G: 4},
	Bases: []int{1316086255203816748, 1400493534638815237, 631232422839134614}, Blind: 761017435413067610,
}

var setups = []api.Setup{tiny, small, odd, large}
var mirrors = []api.Mirror{tinyMirror, smallMirror, oddMirror, largeMirror}

// notSetups are not valid.
var notSetups = []api.Setup{
	{},
	{Group: small.Group},
	{Bases: small.Bases, Blind: 3},
	{Group: api.Group{P: 27, Q: 13, G: 4}, Bases: small.Bases, Blind: 3},
	{Group: api.Group{P: 23, Q: 11, G: 5}, Bases: small.Bases, Blind: 3},
	{Group: api.Group{P: 7, Q: 3, G: 4}, Bases: []int{2, 4, 2}, Blind: 4},
	{Group: api.Group{P: -1, Q: math.MaxInt, G: 4}, Bases: small.Bases, Blind: 3},
	{Group: small.Group, Bases: []int{4}, Blind: 3},
	{Group: small.Group, Bases: slices.Repeat([]int{16}, 8), Blind: 3},
	{Group: small.Group, Bases: []int{1, 16, 18}, Blind: 3},
	{Group: small.Group, Bases: []int{4, 16, 5}, Blind: 3},
	{Group: small.Group, Bases: []int{4, 16, 41}, Blind: 3},
	{Group: small.Group, Bases: small.Bases, Blind: 1},
	{Group: small.Group, Bases: small.Bases, Blind: 5},
}

// ints are numbers at which calculations overflow if they are not done in the integers, and others.
var ints = []int{math.MinInt, math.MinInt + 1, -1 << 61, -23, -11, -1, 0, 1, 2, 4, 10, 11, 23, 27, 1 << 60, 1<<61 - 1, 1 << 62, math.MaxInt}

// TestSetups checks that the setups are what the tests take them for.
func TestSetups(t *testing.T) {
	for i, s := range setups {
		if !proof.ValidSetup(s) || !proof.Mirrors(s, mirrors[i]) {
			t.Error(s)
		}
	}
	for _, s := range notSetups {
		if proof.ValidSetup(s) {
			t.Error(s)
		}
	}
}

// random returns a source of numbers that are the same in each run.
func random() *rand.Rand { return rand.New(rand.NewPCG(4, 5)) }

// residue returns the residue of the product of numbers, calculated with integers of any size.
func residue(n int, l ...int) int {
	r := big.NewInt(1)
	for _, x := range l {
		r.Mul(r, big.NewInt(int64(x)))
	}
	return int(r.Mod(r, big.NewInt(int64(n))).Int64())
}

// power returns x to the power of k, which may be negative, calculated with integers of any size.
func power(g api.Group, x, k int) int {
	e := new(big.Int).Mod(big.NewInt(int64(k)), big.NewInt(int64(g.Q)))
	return int(new(big.Int).Exp(big.NewInt(int64(x)), e, big.NewInt(int64(g.P))).Int64())
}

// product returns the product of the bases of a setup to the power of the exponents.
func product(s api.Setup, exps []int) int {
	r := 1
	for i, e := range exps {
		r = residue(s.Group.P, r, power(s.Group, s.Bases[i], e))
	}
	return r
}

// ones returns a list that begins with 1, followed by attrs.
func ones(attrs []int) []int { return slices.Concat([]int{1}, attrs) }

// hash returns the digest of a text as a number modulo n.
func hash(text string, n int) int {
	digest := sha256.Sum256([]byte(text))
	x := new(big.Int).SetBytes(digest[:])
	return int(x.Mod(x, big.NewInt(int64(n))).Int64())
}

// list returns the encoding of numbers.
func list(l ...int) string {
	var b strings.Builder
	fmt.Fprintf(&b, "%d[", len(l))
	for _, x := range l {
		fmt.Fprintf(&b, "%d;", x)
	}
	return b.String() + "]"
}

// innerOf returns the inner challenge of a ticket, by the definition.
func innerOf(s api.Setup, t api.Ticket) int {
	return hash(list(t.Mark, t.First, t.Z, t.A, t.B), s.Group.Q)
}

// elementsOf returns the powers of G with the exponents 0 to Q - 1, in a small group.
func elementsOf(g api.Group) []int {
	l := []int{1}
	for len(l) < g.Q {
		l = append(l, l[len(l)-1]*g.G%g.P)
	}
	return l
}

// notElements returns numbers that are no elements of a group, among them some with the residues of elements.
func notElements(g api.Group) []int {
	return []int{0, -1, g.P - 1, g.P - g.G, g.P, g.P + 1, g.P + g.G, -g.G, g.G - g.P, math.MinInt, math.MaxInt}
}

// notNumbers returns numbers that are not from 0 to Q - 1.
func notNumbers(q int) []int { return []int{-1, q, q + 1, -q, 2 * q, math.MinInt, math.MaxInt} }

// tuples returns all lists of n numbers from 0 to q - 1.
func tuples(q, n int) [][]int {
	l := [][]int{nil}
	for range n {
		var next [][]int
		for _, t := range l {
			for x := range q {
				next = append(next, append(slices.Clone(t), x))
			}
		}
		l = next
	}
	return l
}

// blindings returns all valid blindings of tiny.
func blindings() []api.Blinding {
	var l []api.Blinding
	for _, x := range tuples(5, 5) {
		if x[0] != 0 && x[1] != 0 {
			l = append(l, api.Blinding{S: x[0], U: x[1], V: x[2], Ys: x[3:]})
		}
	}
	return l
}

// anyBlinding returns a valid blinding.
func anyBlinding(r *rand.Rand, s api.Setup) api.Blinding {
	q := s.Group.Q
	b := api.Blinding{S: 1 + r.IntN(q-1), U: 1 + r.IntN(q-1), V: r.IntN(q)}
	for range s.Bases {
		b.Ys = append(b.Ys, r.IntN(q))
	}
	return b
}

// anyAttrs returns usable attributes.
func anyAttrs(r *rand.Rand, s api.Setup) []int {
	for {
		attrs := []int{1 + r.IntN(s.Group.Q-1)}
		for range len(s.Bases) - 2 {
			attrs = append(attrs, r.IntN(s.Group.Q))
		}
		if product(s, ones(attrs)) != 1 {
			return attrs
		}
	}
}

// pair is a secret and its key.
type pair struct{ x, key int }

// anyPair returns a secret with its key.
func anyPair(r *rand.Rand, s api.Setup) pair {
	x := 1 + r.IntN(s.Group.Q-1)
	return pair{x, power(s.Group, s.Group.G, x)}
}

// issued is a ticket with its holder's blinding and attributes, and the session in which it was issued.
type issued struct {
	session  api.Session
	blinding api.Blinding
	ticket   api.Ticket
}

// issue returns an honest issuing with a blinding with which the inner challenge is not 0.
func issue(t *testing.T, r *rand.Rand, s api.Setup, p pair) issued {
	t.Helper()
	x := issued{session: api.Session{Attrs: anyAttrs(r, s)}}
	w := r.IntN(s.Group.Q)
	var e, f api.Errno
	x.session.Offer, e = ticket.Propose(s, p.x, x.session.Attrs, w)
	for f = api.ErrState; f == api.ErrState; {
		x.blinding = anyBlinding(r, s)
		x.session.C, f = ticket.Ask(s, p.key, x.session.Attrs, x.session.Offer, x.blinding)
	}
	if e != api.OK || f != api.OK {
		t.Fatal(e, f)
	}
	x.session.R = ticket.Grant(s, p.x, w, x.session.C)
	x.ticket, e = ticket.Finish(s, p.key, x.session.Attrs, x.session.Offer, x.blinding, x.session.R)
	if e != api.OK {
		t.Fatal(e)
	}
	return x
}

// use returns the spend of the holder of a ticket.
func use(t *testing.T, s api.Setup, x issued, dare int) api.Spend {
	t.Helper()
	spend, ok := ticket.Use(s, x.session.Attrs, x.blinding, dare)
	if !ok {
		t.Fatal(x, dare)
	}
	return spend
}

// quotient returns the quotient of two numbers modulo q.
func quotient(q, a, b int) int { return field.Mul(q, a, field.Pow(q, b, -1)) }

func sameSpends(a, b api.Spend) bool { return a.Dare == b.Dare && slices.Equal(a.Answers, b.Answers) }

func sameBlindings(a, b api.Blinding) bool {
	return a.S == b.S && a.U == b.U && a.V == b.V && slices.Equal(a.Ys, b.Ys)
}

// isZero reports whether a blinding is zero.
func isZero(b api.Blinding) bool { return sameBlindings(b, api.Blinding{}) }
