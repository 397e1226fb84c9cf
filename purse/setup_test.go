package purse_test

import (
	"fmt"
	"math"
	"math/big"
	"math/rand/v2"
	"slices"
	"strconv"
	"strings"
	"testing"

	"cloak/api"
	"cloak/base"
	"cloak/proof"
	"cloak/purse"
	"cloak/ticket"
)

// small is the setup of the document's examples. There is one attribute.
func small() api.Setup {
	return api.Setup{Group: api.Group{P: 23, Q: 11, G: 4}, Bases: []int{4, 9}, Blind: 3}
}

func middle() api.Setup {
	return api.Setup{Group: api.Group{P: 2027, Q: 1013, G: 4}, Bases: []int{4, 9, 16}, Blind: 25}
}

// wide is a setup with as many bases as possible.
func wide() api.Setup {
	return api.Setup{Group: api.Group{P: 23, Q: 11, G: 9}, Bases: []int{2, 2, 9, 18, 3, 4, 6}, Blind: 9}
}

// large is a setup in the greatest group with the generator 4.
func large() api.Setup {
	return api.Setup{
		Group: api.Group{P: 2305843009213691579, Q: 1152921504606845789, G: 4},
		Bases: []int{1316086255203816748, 1400493534638815237, 631232422839134614}, Blind: 761017435413067610,
	}
}

func setups() []api.Setup { return []api.Setup{small(), middle(), wide(), large()} }

// notSetups are not valid.
func notSetups() []api.Setup {
	g := middle().Group
	return []api.Setup{
		{},
		{Group: g},
		{Group: g, Bases: []int{4}, Blind: 25},
		{Group: g, Bases: []int{1, 9, 16}, Blind: 25},
		{Group: g, Bases: []int{4, 9, 2026}, Blind: 25},
		{Group: g, Bases: []int{4, 9, 16}, Blind: 1},
		{Group: g, Bases: slices.Repeat([]int{4}, 8), Blind: 25},
		{Group: api.Group{P: 2027, Q: 1013, G: 2026}, Bases: []int{4, 9, 16}, Blind: 25},
		{Group: api.Group{P: 2025, Q: 1012, G: 4}, Bases: []int{4, 9, 16}, Blind: 25},
		{Group: api.Group{P: -1, Q: math.MaxInt, G: 4}, Bases: []int{4, 9, 16}, Blind: 25},
	}
}

// someLimits are: one a day; two in all, at the gate 3; and five in seven minutes.
func someLimits() []api.Limit {
	return []api.Limit{{Count: 1, Length: 1440, Gate: api.None}, {Count: 2, Gate: 3}, {Count: 5, Length: 7, Gate: 0}}
}

// ints are numbers at which calculations overflow if one is not careful, and others.
var ints = []int{math.MinInt, math.MinInt + 1, -1 << 61, -11, -1, 0, 1, 2, 4, 10, 11, 399, 400, api.MaxTime, api.MaxTime + 1, 1 << 60, 1 << 62, math.MaxInt}

// random returns a source of numbers that are the same in each run.
func random() *rand.Rand { return rand.New(rand.NewPCG(7, 7)) }

// TestSetups checks that the setups are what the tests take them for.
func TestSetups(t *testing.T) {
	for _, s := range setups() {
		if !proof.ValidSetup(s) {
			t.Error(s)
		}
	}
	for _, s := range notSetups() {
		if proof.ValidSetup(s) {
			t.Error(s)
		}
	}
}

// power returns x to the power of k, calculated with integers of any size.
func power(s api.Setup, x, k int) int {
	return int(new(big.Int).Exp(big.NewInt(int64(x)), big.NewInt(int64(k)), big.NewInt(int64(s.Group.P))).Int64())
}

// product returns the product of the bases of a setup to the power of the exponents.
func product(s api.Setup, exps []int) int {
	r := big.NewInt(1)
	for i, e := range exps {
		r.Mul(r, big.NewInt(int64(power(s, s.Bases[i], e))))
	}
	return int(r.Mod(r, big.NewInt(int64(s.Group.P))).Int64())
}

// ones returns a list that begins with 1, followed by l.
func ones(l []int) []int { return slices.Concat([]int{1}, l) }

func anyElement(r *rand.Rand, s api.Setup) int { return power(s, s.Group.G, r.IntN(s.Group.Q)) }

// anyAttrs returns usable attributes.
func anyAttrs(r *rand.Rand, s api.Setup) []int {
	for {
		attrs := []int{1 + r.IntN(s.Group.Q-1)}
		for range len(s.Bases) - 2 {
			attrs = append(attrs, r.IntN(s.Group.Q))
		}
		if product(s, ones(attrs)) != 1 {
			return attrs
		}
	}
}

// anyBlinding returns a valid blinding.
func anyBlinding(r *rand.Rand, s api.Setup) api.Blinding {
	q := s.Group.Q
	b := api.Blinding{S: 1 + r.IntN(q-1), U: 1 + r.IntN(q-1), V: r.IntN(q)}
	for range s.Bases {
		b.Ys = append(b.Ys, r.IntN(q))
	}
	return b
}

// anyHeld returns a held ticket that is valid for a limit and a window, but was signed by nobody.
func anyHeld(r *rand.Rand, s api.Setup, limit, window int) api.Held {
	h := api.Held{Limit: limit, Window: window, Attrs: anyAttrs(r, s), Blinding: anyBlinding(r, s)}
	h.Ticket = api.Ticket{
		Mark:  power(s, product(s, ones(h.Attrs)), h.Blinding.S),
		First: product(s, h.Blinding.Ys),
		Z:     anyElement(r, s), A: anyElement(r, s), B: anyElement(r, s), R: r.IntN(s.Group.Q),
	}
	return h
}

// anyInt returns any int, of any length.
func anyInt(r *rand.Rand) int {
	if r.IntN(10) == 0 {
		return ints[r.IntN(len(ints))]
	}
	return int(r.Uint64()) >> r.IntN(64)
}

func anyInts(r *rand.Rand, n int) []int {
	var l []int
	for range n {
		l = append(l, anyInt(r))
	}
	return l
}

func anyTicket(r *rand.Rand) api.Ticket {
	return api.Ticket{Mark: anyInt(r), First: anyInt(r), Z: anyInt(r), A: anyInt(r), B: anyInt(r), R: anyInt(r)}
}

// anyText returns a string of n bytes.
func anyText(r *rand.Rand, n int) string {
	b := make([]byte, n)
	for i := range b {
		b[i] = byte(r.IntN(256))
	}
	return string(b)
}

// anyLinks returns n links as a held ticket may have them: with any numbers, and terms or other texts.
func anyLinks(r *rand.Rand, n int) []api.Link {
	var l []api.Link
	for range n {
		x := api.Link{Ticket: anyTicket(r), Spend: api.Spend{Dare: anyInt(r), Answers: anyInts(r, r.IntN(8))}}
		switch r.IntN(4) {
		case 0:
			x.Terms = anyText(r, r.IntN(201))
		case 1:
			x.Terms = "100;4:pool,"
		default:
			x.Terms = "100;0:,"
		}
		l = append(l, x)
	}
	return l
}

// nums returns the encoding of numbers.
func nums(l ...int) string {
	b := []byte(strconv.Itoa(len(l)) + "[")
	for _, x := range l {
		b = append(strconv.AppendInt(b, int64(x), 10), ';')
	}
	return string(b) + "]"
}

// text returns the encoding of a string.
func text(s string) string { return fmt.Sprintf("%d:%s,", len(s), s) }

// encoded returns the encoding of a held ticket, by the definition.
func encoded(h api.Held) string {
	ticketOf := func(t api.Ticket) string { return nums(t.Mark, t.First, t.Z, t.A, t.B, t.R) }
	s := nums(h.Limit, h.Window) + nums(h.Attrs...) + nums(h.Blinding.S, h.Blinding.U, h.Blinding.V) + nums(h.Blinding.Ys...) + ticketOf(h.Ticket)
	s += fmt.Sprintf("%d;", len(h.Links))
	for _, x := range h.Links {
		s += ticketOf(x.Ticket) + fmt.Sprintf("%d;", x.Spend.Dare) + nums(x.Spend.Answers...) + text(x.Terms)
	}
	return s
}

// linksText returns a text that determines links.
func linksText(l []api.Link) string { return encoded(api.Held{Links: l}) }

// itemsText returns a text that determines items.
func itemsText(l []api.Item) string {
	var b strings.Builder
	for _, x := range l {
		fmt.Fprintln(&b, encoded(x.Held), x.Status, x.Dare, x.Lent, x.Back)
	}
	return b.String()
}

func sameSpends(a, b api.Spend) bool { return a.Dare == b.Dare && slices.Equal(a.Answers, b.Answers) }

func isZeroSpend(x api.Spend) bool { return sameSpends(x, api.Spend{}) }

// isZeroHeld reports whether a held ticket is zero.
func isZeroHeld(h api.Held) bool { return encoded(h) == "2[0;0;]0[]3[0;0;0;]0[]6[0;0;0;0;0;0;]0;" }

// open opens the purse of a disk.
func open(t *testing.T, d *base.Disk, s api.Setup, limits []api.Limit) *purse.Purse {
	t.Helper()
	p, e := purse.Open(d, s, limits)
	if e != api.OK || p == nil {
		t.Fatal(p, e)
	}
	return p
}

// filled returns a disk with a purse that has the given tickets.
func filled(t *testing.T, s api.Setup, limits []api.Limit, l ...api.Held) (*base.Disk, *purse.Purse) {
	t.Helper()
	d := base.NewDisk()
	p := open(t, d, s, limits)
	for i, h := range l {
		if e := p.Add(h); e != api.OK {
			t.Fatal(i, e)
		}
	}
	return d, p
}

// restart crashes a disk, where every pending sector survives or none does, and opens its purse again.
func restart(t *testing.T, d *base.Disk, s api.Setup, limits []api.Limit, keep int) *purse.Purse {
	t.Helper()
	d.Crash([]int{keep})
	d.Start()
	return open(t, d, s, limits)
}

// journalOf returns a disk whose file 0 is a journal with the given records.
func journalOf(t *testing.T, records ...string) *base.Disk {
	t.Helper()
	d := base.NewDisk()
	j, e := base.OpenJournal(d, 0)
	if e != api.OK {
		t.Fatal(e)
	}
	for _, x := range records {
		if e := j.Append(x); e != api.OK {
			t.Fatal(e)
		}
	}
	if e := j.Sync(); e != api.OK {
		t.Fatal(e)
	}
	return d
}

// content returns the file 0 of a disk that is up.
func content(t *testing.T, d *base.Disk) string {
	t.Helper()
	s, e := d.Read(0, 0, d.Size(0))
	if e != api.OK {
		t.Fatal(e)
	}
	return s
}

// issue returns a ticket for the attributes, which an issuer with the secret x has signed.
func issue(t *testing.T, r *rand.Rand, s api.Setup, x, limit, window int, attrs []int) api.Held {
	t.Helper()
	key, w := ticket.Public(s, x), r.IntN(s.Group.Q)
	o, e := ticket.Propose(s, x, attrs, w)
	if e != api.OK {
		t.Fatal(e)
	}
	for {
		b := anyBlinding(r, s)
		c, e := ticket.Ask(s, key, attrs, o, b)
		if e == api.ErrState {
			continue
		}
		y, f := ticket.Finish(s, key, attrs, o, b, ticket.Grant(s, x, w, c))
		if e != api.OK || f != api.OK {
			t.Fatal(e, f)
		}
		return api.Held{Limit: limit, Window: window, Attrs: slices.Clone(attrs), Blinding: b, Ticket: y}
	}
}
