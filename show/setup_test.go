package show_test

import (
	"math"
	"math/big"
	"math/rand/v2"
	"slices"
	"strconv"
	"testing"

	"cloak/api"
	"cloak/proof"
	"cloak/ticket"
)

// world is a setup with its mirror, and a source of numbers that are the same in each run.
type world struct {
	*rand.Rand
	s api.Setup
	m api.Mirror
}

// made returns the world with a group and a mirror.
func made(g api.Group, blind int, bases ...int) *world {
	m := api.Mirror{Bases: bases, Blind: blind}
	s, ok := proof.Make(g, m)
	if !ok {
		panic("no setup")
	}
	return &world{rand.New(rand.NewPCG(6, uint64(g.Q))), s, m}
}

// bare has no attributes but the number; it is as small as a group can be in which tasks are valid.
func bare() *world { return made(api.Group{P: 23, Q: 11, G: 4}, 5, 2, 3) }

// small has one attribute, which is 0 or 1 in questions.
func small() *world { return made(api.Group{P: 23, Q: 11, G: 9}, 7, 1, 4, 6) }

// middle is the setup of a group in which attributes are at most 10, with two attributes.
func middle() *world { return made(api.Group{P: 167, Q: 83, G: 4}, 11, 2, 3, 5, 7) }

// wide has as many bases as possible, some of which are equal.
func wide() *world { return made(api.Group{P: 2039, Q: 1019, G: 9}, 44, 900, 17, 5, 5, 1, 1018, 44) }

// large is a setup in the greatest group with the generator 4.
func large() *world {
	return made(api.Group{P: 2305843009213691579, Q: 1152921504606845789, G: 4}, 298023223876953125, 100000000000000007, 150094635296999121, 200000000000000003, 17, 1<<59+5)
}

func worlds() []*world { return []*world{bare(), small(), middle(), wide(), large()} }

// most returns the greatest Most that a task of the world can have.
func (w *world) most() int { return min(api.MaxValue, (w.s.Group.Q-1)/8) }

// notSetups are not valid.
func notSetups() []api.Setup {
	s := middle().s
	l := []api.Setup{
		{}, {Group: s.Group}, {Bases: s.Bases, Blind: s.Blind},
		{Group: api.Group{P: 7, Q: 3, G: 4}, Bases: []int{2, 4, 2}, Blind: 4},
		{Group: api.Group{P: -1, Q: math.MaxInt, G: 4}, Bases: s.Bases, Blind: s.Blind},
	}
	for _, change := range []func(s *api.Setup){
		func(s *api.Setup) { s.Blind = 1 }, func(s *api.Setup) { s.Blind = 5 }, func(s *api.Setup) { s.Blind += s.Group.P },
		func(s *api.Setup) { s.Bases[1] = 1 }, func(s *api.Setup) { s.Bases[3] = 0 }, func(s *api.Setup) { s.Bases = s.Bases[:1] },
		func(s *api.Setup) { s.Bases = slices.Concat(s.Bases, s.Bases) }, func(s *api.Setup) { s.Group.G = 5 }, func(s *api.Setup) { s.Group.Q = 84 },
	} {
		bad := middle().s
		change(&bad)
		l = append(l, bad)
	}
	return l
}

// hostile are numbers at which calculations overflow if they are not done in the integers, and others.
var hostile = []int{math.MinInt, math.MinInt + 1, -1 << 61, -84, -83, -11, -2, -1, 0, 1, 2, 4, 10, 11, 12, 13, 16, 17, 23, 83, 84, 166, 167, 168, 65535, 65536, 1 << 60, 1<<61 - 1, 1 << 61, 1 << 62, math.MaxInt}

// notExponents returns numbers that are no exponents.
func (w *world) notExponents() []int {
	q := w.s.Group.Q
	return []int{-1, q, q + 1, -q, math.MinInt, math.MaxInt}
}

// notElements returns numbers that are no elements, among them some with the residues of elements.
func (w *world) notElements() []int {
	g := w.s.Group
	return []int{0, -1, g.P - 1, g.P - g.G, g.P, g.P + 1, g.P + g.G, -g.G, g.G - g.P, math.MinInt, math.MaxInt}
}

// residue returns the residue of the product of numbers, calculated with integers of any size.
func residue(n int, l ...int) int {
	r := big.NewInt(1)
	for _, x := range l {
		r.Mul(r, big.NewInt(int64(x)))
	}
	return int(r.Mod(r, big.NewInt(int64(n))).Int64())
}

// sum returns the residue modulo Q of the sum of numbers that are less than Q in size.
func (w *world) sum(l ...int) int {
	r := 0
	for _, x := range l {
		r = residue(w.s.Group.Q, r+x)
	}
	return r
}

// mul returns the residue modulo Q of the product of numbers.
func (w *world) mul(l ...int) int { return residue(w.s.Group.Q, l...) }

// invert returns the inverse of a number modulo Q.
func (w *world) invert(x int) int {
	return int(new(big.Int).ModInverse(big.NewInt(int64(w.mul(x))), big.NewInt(int64(w.s.Group.Q))).Int64())
}

// power returns the element x to the power of k.
func (w *world) power(x, k int) int {
	return int(new(big.Int).Exp(big.NewInt(int64(x)), big.NewInt(int64(w.mul(k))), big.NewInt(int64(w.s.Group.P))).Int64())
}

// times returns the product of elements.
func (w *world) times(l ...int) int { return residue(w.s.Group.P, l...) }

// over returns the quotient of elements.
func (w *world) over(a, b int) int { return w.times(a, w.power(b, -1)) }

// commit returns a commitment, by the mirror.
func (w *world) commit(v, r int) int {
	return w.power(w.s.Group.G, w.sum(w.mul(v), w.mul(r, w.m.Blind)))
}

// exponent returns any exponent.
func (w *world) exponent() int { return w.IntN(w.s.Group.Q) }

// factor returns any exponent but 0.
func (w *world) factor() int { return 1 + w.IntN(w.s.Group.Q-1) }

// several returns n exponents.
func (w *world) several(n int) []int {
	l := make([]int, n)
	for i := range l {
		l[i] = w.exponent()
	}
	return l
}

// issue issues a ticket for attributes with the key of a secret, and returns what the issuer and the holder have of it.
func (w *world) issue(secret int, attrs ...int) (api.Session, api.Held) {
	key := ticket.Public(w.s, secret)
	for range 1000 {
		n := w.exponent()
		b := api.Blinding{S: w.factor(), U: w.factor(), V: w.exponent(), Ys: w.several(len(w.s.Bases))}
		o, _ := ticket.Propose(w.s, secret, attrs, n)
		c, e := ticket.Ask(w.s, key, attrs, o, b)
		if e == api.ErrState {
			continue // the inner challenge is 0
		}
		r := ticket.Grant(w.s, secret, n, c)
		k, e := ticket.Finish(w.s, key, attrs, o, b, r)
		if e != api.OK {
			break
		}
		return api.Session{Attrs: attrs, Offer: o, C: c, R: r}, api.Held{Limit: w.IntN(9), Window: w.IntN(9), Attrs: attrs, Blinding: b, Ticket: k}
	}
	panic("no ticket for " + strconv.Itoa(secret))
}

// held returns a ticket for attributes with the key of a secret.
func (w *world) held(secret int, attrs ...int) api.Held {
	_, h := w.issue(secret, attrs...)
	return h
}

// usable returns attributes with a number whose mark is not 1; each of the others is from 0 to most.
func (w *world) usable(number, most int) []int {
	for {
		attrs := []int{number}
		for range len(w.s.Bases) - 2 {
			attrs = append(attrs, w.IntN(most+1))
		}
		if ticket.Usable(w.s, attrs) {
			return attrs
		}
		if len(attrs) == 1 {
			number = number%(w.s.Group.Q-1) + 1
		}
	}
}

// lend returns the second ticket, for which the first one was spent under terms.
func (w *world) lend(a, b api.Held, terms string) api.Held {
	spend, ok := ticket.Use(w.s, a.Attrs, a.Blinding, ticket.LendDare(w.s, b.Ticket, terms))
	if !ok {
		panic("no spend")
	}
	b.Links = append(slices.Clone(a.Links), api.Link{Ticket: a.Ticket, Spend: spend, Terms: terms})
	return b
}

// key returns the key of a secret.
func (w *world) key(secret int) int { return ticket.Public(w.s, secret) }

// attrNames returns as many names of attributes as a pass can have.
func (w *world) attrNames() []string {
	return []string{"age", "town", "c", "d", "e"}[:len(w.s.Bases)-2]
}

// task returns a task about one pass of the issuer with the secret 6.
func (w *world) task(question string) api.Task {
	return api.Task{
		Version: 3, Question: "question q { " + question + " }", Passes: []api.Pass{{Name: "id", Pub: w.key(6), Attrs: w.attrNames()}},
		Most: w.most(), Revoked: []int{4, 9, 10}, Dare: 8, Quorum: 3, Jurors: 4,
	}
}

// TestSetups checks that the setups are what the tests take them for.
func TestSetups(t *testing.T) {
	for _, w := range worlds() {
		if !proof.ValidSetup(w.s) || !proof.Mirrors(w.s, w.m) {
			t.Error(w.s)
		}
		if c := proof.Commit(w.s, 5, 7); c != w.commit(5, 7) {
			t.Error(w.s, c)
		}
	}
	for _, s := range notSetups() {
		if proof.ValidSetup(s) {
			t.Error(s)
		}
	}
}
