package ticket_test

import (
	"slices"
	"testing"

	"cloak/api"
	"cloak/ticket"
)

// calculated are issuings and spends in the setup large that were calculated by another program.
var calculated = []struct {
	x, key, w, d    int
	session         api.Session
	blinding        api.Blinding
	ticket          api.Ticket
	inner           int
	answers         []int
	ofTerms, ofNone int // the lending challenges for the terms "two rides", and for none
}{
	{
		294508053350743110, 2265239334041921731, 413363302318850201, 287138165725057909,
		api.Session{Attrs: []int{5, 7}, Offer: api.Offer{Z: 2070906367165525507, A: 961010873874314023, B: 80456112499325340}, C: 52474983368465251, R: 346496938719454967},
		api.Blinding{S: 796031015877463608, U: 970196089301134315, V: 751741364423228969, Ys: []int{611094350337506720, 968855419926405871, 894619317271989211}},
		api.Ticket{Mark: 302317196873458931, First: 1637166026861097005, Z: 2019706970350885225, A: 379017373981402623, B: 2252713695995197559, R: 506072276192767223},
		1043194738784637921, []int{1031963931230727781, 767360315178819598, 381941869703999271}, 915037001619604363, 927704482748554715,
	},
	{
		59782730617139798, 2127848407509710071, 180837265405209147, 470566126938200739,
		api.Session{Attrs: []int{1152921504606845788, 0}, Offer: api.Offer{Z: 2017275778794405130, A: 751639593133916217, B: 1873233387424916583}, C: 426872042781778317, R: 93862322811352226},
		api.Blinding{S: 428648555649634551, U: 1001249443847399587, V: 438983986998371752, Ys: []int{117568478591052136, 287458749087338309, 842997429087990681}},
		api.Ticket{Mark: 2009564873582497948, First: 2229688562611886814, Z: 1248132951859985842, A: 1882104510345555530, B: 2288597560000320878, R: 1084993553480712290},
		591538707126543462, []int{1009088501753448530, 548860230531787704, 842997429087990681}, 1109637117977217516, 877334406701235780,
	},
	{
		209918945858955294, 2277226313109985944, 1000112245802638369, 1121028567828025649,
		api.Session{Attrs: []int{123456789012345678, 987654321098765432}, Offer: api.Offer{Z: 1606037951180838158, A: 922137246464315158, B: 1110454860945778748}, C: 424552058434652538, R: 651567283666569177},
		api.Blinding{S: 448990657437406534, U: 878440208513356383, V: 82931647201268567, Ys: []int{712420386490696426, 512860634423057995, 152463329438162022}},
		api.Ticket{Mark: 567609386125729575, First: 1471600223182952671, Z: 1591705637376105842, A: 1154347721271370774, B: 21508754355180024, R: 420659963080883301},
		1012272462359867364, []int{919503268041438683, 123968583487274632, 364524491925470395}, 810105507956498630, 865014209126093189,
	},
}

// P4.2, P4.3, P4.4, P4.5, P4.6, P4.10: numbers that were calculated by another program.
func TestCalculated(t *testing.T) {
	for i, x := range calculated {
		o, e := ticket.Propose(large, x.x, x.session.Attrs, x.w)
		c, f := ticket.Ask(large, x.key, x.session.Attrs, o, x.blinding)
		if ticket.Public(large, x.x) != x.key || o != x.session.Offer || e != api.OK || c != x.session.C || f != api.OK || ticket.Grant(large, x.x, x.w, c) != x.session.R {
			t.Error(i, o, e, c, f)
		}
		got, e := ticket.Finish(large, x.key, x.session.Attrs, o, x.blinding, x.session.R)
		if got != x.ticket || e != api.OK || ticket.Inner(large, got) != x.inner || !ticket.Valid(large, x.key, got) {
			t.Error(i, got, e)
		}
		spend, ok := ticket.Use(large, x.session.Attrs, x.blinding, x.d)
		if !ok || !sameSpends(spend, api.Spend{Dare: x.d, Answers: x.answers}) || !ticket.Accepts(large, got, spend) {
			t.Error(i, spend, ok)
		}
		if ticket.LendDare(large, got, "two rides") != x.ofTerms || ticket.LendDare(large, got, "") != x.ofNone {
			t.Error(i, "lending")
		}
	}
}

// P4.2
func TestPropose(t *testing.T) {
	if o, e := ticket.Propose(small, 3, []int{5, 7}, 2); o != (api.Offer{Z: 9, A: 16, B: 13}) || e != api.OK {
		t.Error(o, e)
	}
	r := random()
	for _, s := range setups {
		g := s.Group
		for range 20 {
			attrs, p := anyAttrs(r, s), anyPair(r, s)
			m := product(s, ones(attrs))
			for _, w := range []int{0, 1, r.IntN(g.Q), g.Q - 1} {
				if o, e := ticket.Propose(s, p.x, attrs, w); o != (api.Offer{Z: power(g, m, p.x), A: power(g, g.G, w), B: power(g, m, w)}) || e != api.OK {
					t.Error(s, p, attrs, w, o, e)
				}
			}
			for _, bad := range append(notNumbers(g.Q), 0) {
				if o, e := ticket.Propose(s, bad, attrs, 1); o != (api.Offer{}) || e != api.ErrArg {
					t.Error(s, bad, o, e)
				}
				if o, e := ticket.Propose(s, p.x, attrs, bad); bad != 0 && (o != (api.Offer{}) || e != api.ErrArg) {
					t.Error(s, bad, o, e)
				}
			}
		}
	}
	for _, attrs := range [][]int{nil, {5}, {5, 7, 1}, {0, 7}, {11, 7}, {5, -1}, {5, 0}} {
		if o, e := ticket.Propose(small, 3, attrs, 2); o != (api.Offer{}) || e != api.ErrArg {
			t.Error(attrs, o, e)
		}
	}
	for _, s := range notSetups {
		if o, e := ticket.Propose(s, 3, []int{5, 7}, 2); o != (api.Offer{}) || e != api.ErrArg {
			t.Error(s, o, e)
		}
	}
}

// P4.3
func TestGrant(t *testing.T) {
	if ticket.Grant(small, 3, 2, 6) != 9 || ticket.Grant(small, 3, 2, 0) != 2 || ticket.Grant(small, 1, 0, 0) != 0 {
		t.Error("examples")
	}
	for _, x := range tuples(11, 3) {
		want := 0
		if x[0] != 0 {
			want = (x[0]*x[2] + x[1]) % 11
		}
		if got := ticket.Grant(small, x[0], x[1], x[2]); got != want {
			t.Error(x, got)
		}
	}
	q := large.Group.Q
	if ticket.Grant(large, q-1, q-1, q-1) != 0 || ticket.Grant(large, q-1, 5, q-2) != 7 {
		t.Error("great numbers")
	}
	for _, s := range setups {
		for _, bad := range notNumbers(s.Group.Q) {
			if ticket.Grant(s, bad, 2, 3) != 0 || ticket.Grant(s, 3, bad, 3) != 0 || ticket.Grant(s, 3, 2, bad) != 0 {
				t.Error(s, bad)
			}
		}
	}
	for _, s := range notSetups {
		if ticket.Grant(s, 3, 2, 6) != 0 {
			t.Error(s)
		}
	}
}

// blinded returns the ticket of step 2 without its R, and its inner challenge, by the definition.
func blinded(s api.Setup, attrs []int, o api.Offer, b api.Blinding) (api.Ticket, int) {
	g := s.Group
	mark := power(g, product(s, ones(attrs)), b.S)
	t := api.Ticket{
		Mark: mark, First: product(s, b.Ys), Z: power(g, o.Z, b.S),
		A: residue(g.P, power(g, o.A, b.U), power(g, g.G, b.V)),
		B: residue(g.P, power(g, power(g, o.B, b.S), b.U), power(g, mark, b.V)),
	}
	return t, innerOf(s, t)
}

// offers returns offers of honest and of other issuers in tiny.
func offers() []api.Offer {
	var l []api.Offer
	for _, z := range []int{4, 5, 9, 3} {
		for _, a := range []int{1, 4, 5} {
			for _, b := range []int{1, 4, 9} {
				l = append(l, api.Offer{Z: z, A: a, B: b})
			}
		}
	}
	return l
}

// P4.3, P4.4: all blindings of tiny with many offers, by the definition, whether the issuer is honest or not.
func TestIssuingAll(t *testing.T) {
	g := tiny.Group
	states, tickets := 0, 0
	all := blindings()
	for i, o := range offers() {
		for k := i % 3; k < len(all); k += 3 {
			b, attrs := all[k], []int{[]int{1, 3, 4}[k%7%3]}
			m := product(tiny, ones(attrs))
			key := []int{3, 4, 5, 9}[k%11%4]
			want, inner := blinded(tiny, attrs, o, b)
			c, e := ticket.Ask(tiny, key, attrs, o, b)
			if inner == 0 {
				states++
				_, f := ticket.Finish(tiny, key, attrs, o, b, 2)
				got, h := ticket.Finish(tiny, key, attrs, o, b, 5)
				if c != 0 || e != api.ErrState || f != api.ErrState || got != (api.Ticket{}) || h != api.ErrState {
					t.Error(o, b, c, e, f, got, h)
				}
				continue
			}
			if c != quotient(5, inner, b.U) || e != api.OK {
				t.Error(o, b, c, e)
			}
			for r := range 5 {
				got, e := ticket.Finish(tiny, key, attrs, o, b, r)
				want.R = (r*b.U + b.V) % 5
				first := power(g, g.G, r) == power(g, key, c)*o.A%11
				second := power(g, m, r) == power(g, o.Z, c)*o.B%11
				if first && second {
					tickets++
					if got != want || e != api.OK {
						t.Error(o, b, r, got, e)
					}
				} else if got != (api.Ticket{}) || e != api.ErrCheck {
					t.Error(o, b, r, got, e)
				}
			}
		}
	}
	if states < 1000 || tickets < 1000 {
		t.Error(states, tickets)
	}
}

// asked are the arguments of Ask.
type asked struct {
	setup    api.Setup
	key      int
	attrs    []int
	offer    api.Offer
	blinding api.Blinding
}

// badAsked returns arguments of Ask in the setup of x, each of which differs from x in one that is not valid.
func badAsked(x asked) []asked {
	var l []asked
	change := func(f func(y *asked)) {
		y := x
		y.attrs, y.blinding.Ys = slices.Clone(x.attrs), slices.Clone(x.blinding.Ys)
		f(&y)
		l = append(l, y)
	}
	for _, n := range append(notElements(x.setup.Group), 1) {
		change(func(y *asked) { y.key = n })
		change(func(y *asked) { y.offer.Z = n })
		if n != 1 {
			change(func(y *asked) { y.offer.A = n })
			change(func(y *asked) { y.offer.B = n })
		}
	}
	for _, n := range append(notNumbers(x.setup.Group.Q), 0) {
		change(func(y *asked) { y.attrs[0] = n })
		change(func(y *asked) { y.blinding.S = n })
		change(func(y *asked) { y.blinding.U = n })
		if n != 0 {
			change(func(y *asked) { y.attrs[len(y.attrs)-1] = n })
			change(func(y *asked) { y.blinding.V = n })
			change(func(y *asked) { y.blinding.Ys[0] = n })
			change(func(y *asked) { y.blinding.Ys[len(y.blinding.Ys)-1] = n })
		}
	}
	change(func(y *asked) { y.attrs = nil })
	change(func(y *asked) { y.attrs = y.attrs[1:] })
	change(func(y *asked) { y.attrs = append(y.attrs, 1) })
	change(func(y *asked) { y.blinding.Ys = nil })
	change(func(y *asked) { y.blinding.Ys = y.blinding.Ys[1:] })
	change(func(y *asked) { y.blinding.Ys = append(y.blinding.Ys, 1) })
	change(func(y *asked) { y.setup.Blind = 1 })
	return l
}

// P4.3, P4.4: arguments that are not valid, also where the inner challenge would be 0.
func TestAskErrors(t *testing.T) {
	r := random()
	for _, s := range setups {
		p := anyPair(r, s)
		x := issue(t, r, s, p)
		bad := badAsked(asked{s, p.key, x.session.Attrs, x.session.Offer, x.blinding})
		for _, y := range bad {
			checkAskFails(t, y, x.session.R)
		}
	}
	for _, b := range blindings() {
		o := api.Offer{Z: 3, A: 4, B: 9}
		if _, e := ticket.Ask(tiny, 5, []int{1}, o, b); e == api.ErrState {
			for _, y := range badAsked(asked{tiny, 5, []int{1}, o, b}) {
				checkAskFails(t, y, 2)
			}
			break
		}
	}
	checkAskFails(t, asked{small, 18, []int{5, 0}, api.Offer{Z: 9, A: 16, B: 13}, api.Blinding{S: 4, U: 3, V: 1, Ys: []int{1, 2, 3}}}, 5)
	for _, s := range notSetups {
		checkAskFails(t, asked{s, 18, []int{5, 7}, api.Offer{Z: 9, A: 16, B: 13}, api.Blinding{S: 4, U: 3, V: 1, Ys: []int{1, 2, 3}}}, 5)
	}
}

// checkAskFails checks that Ask and Finish return ErrArg.
func checkAskFails(t *testing.T, x asked, r int) {
	t.Helper()
	c, e := ticket.Ask(x.setup, x.key, x.attrs, x.offer, x.blinding)
	got, f := ticket.Finish(x.setup, x.key, x.attrs, x.offer, x.blinding, r)
	if c != 0 || e != api.ErrArg || got != (api.Ticket{}) || f != api.ErrArg {
		t.Error(x, c, e, got, f)
	}
}

// P4.4: an r that is out of range is an error of its own, also if its residue is right.
func TestFinishErrors(t *testing.T) {
	r := random()
	for _, s := range setups {
		p := anyPair(r, s)
		x := issue(t, r, s, p)
		q := s.Group.Q
		for _, n := range append(notNumbers(q), x.session.R+q, x.session.R-q) {
			if got, e := ticket.Finish(s, p.key, x.session.Attrs, x.session.Offer, x.blinding, n); got != (api.Ticket{}) || e != api.ErrArg {
				t.Error(s, n, got, e)
			}
		}
	}
	// Each of the two equations is needed: in the first offer, B is not m^w; in the second one, A is not G^w.
	b := api.Blinding{S: 4, U: 3, V: 1, Ys: []int{1, 2, 3}}
	for _, o := range []api.Offer{{Z: 9, A: 16, B: 6}, {Z: 9, A: 4, B: 13}} {
		c, e := ticket.Ask(small, 18, []int{5, 7}, o, b)
		if e != api.OK {
			t.Fatal(o, e)
		}
		for n := range 11 {
			if got, e := ticket.Finish(small, 18, []int{5, 7}, o, b, n); got != (api.Ticket{}) || e != api.ErrCheck {
				t.Error(o, c, n, got, e)
			}
		}
	}
}

// P4.12
func TestCompleteness(t *testing.T) {
	r := random()
	for _, s := range setups {
		q := s.Group.Q
		for range 30 {
			p := anyPair(r, s)
			x := issue(t, r, s, p)
			if !ticket.Formed(s, x.ticket) || !ticket.Valid(s, p.key, x.ticket) || x.ticket.Z != power(s.Group, x.ticket.Mark, p.x) {
				t.Error(s, x)
			}
			dares := []int{1, 2, q / 2, q - 1, 1 + r.IntN(q-1)}
			for _, dare := range dares {
				if !ticket.Accepts(s, x.ticket, use(t, s, x, dare)) {
					t.Error(s, x, dare)
				}
			}
			others := []int{(x.session.R + 1) % q, (x.session.R + q - 1) % q, (q - x.session.R) % q, r.IntN(q)}
			for n := range min(q, 100) {
				others = append(others, n)
			}
			for _, n := range others {
				if _, e := ticket.Finish(s, p.key, x.session.Attrs, x.session.Offer, x.blinding, n); n != x.session.R && e != api.ErrCheck {
					t.Error(s, x, n, e)
				}
			}
		}
	}
}
