package ask

import (
	"cloak/api"
	"cloak/base"
)

// sum is what a sum denotes: the value of a name, plus an offset.
type sum struct {
	name   string
	offset int
}

// comparison is a comparison sign, and what it denotes for two sums.
type comparison struct {
	sign string
	pred func(a, b sum) api.Pred
}

func comparisons() []comparison {
	return []comparison{
		{"<", less},
		{"<=", atMost},
		{">", func(a, b sum) api.Pred { return less(b, a) }},
		{">=", atLeast},
		{"=", func(a, b sum) api.Pred { return both(atMost(a, b), atLeast(a, b)) }},
		{"!=", func(a, b sum) api.Pred {
			return api.Pred{Kind: api.PrSome, Kids: []api.Pred{less(a, b), less(b, a)}}
		}},
	}
}

func atMost(a, b sum) api.Pred {
	return api.Pred{Left: a.name, Right: b.name, C: b.offset - a.offset}
}

func atLeast(a, b sum) api.Pred { return atMost(b, a) }

func less(a, b sum) api.Pred {
	b.offset--
	return atMost(a, b)
}

func both(p, q api.Pred) api.Pred {
	return api.Pred{Kind: api.PrAll, Kids: []api.Pred{p, q}}
}

// allFit reports whether each C of the atoms of a predicate is in the range of valid atoms.
func allFit(p api.Pred) bool {
	for _, kid := range p.Kids {
		if !allFit(kid) {
			return false
		}
	}
	return p.Kind != api.PrAtom || fits(p.C)
}

// Parse parses a question.
func Parse(s string) (name string, p api.Pred, at int, e api.Errno) {
	tokens, at, e := base.Scan(s)
	if e != api.OK {
		return "", api.Pred{}, at, e
	}
	r := parser{tokens: tokens, end: len(s)}
	name, p = r.question()
	if !ValidPred(p) {
		r.fail(0, api.ErrFull)
	}
	if r.e != api.OK {
		return "", api.Pred{}, r.at, r.e
	}
	return name, p, 0, api.OK
}

// parser reads tokens up to the first error. From then on it has none left, so that all that is being read comes to an end.
type parser struct {
	tokens []api.Token
	end    int // the length of the text
	at     int // where the first error is
	e      api.Errno
}

// fail keeps an error, unless there was one before.
func (r *parser) fail(at int, e api.Errno) {
	if r.e == api.OK {
		r.at, r.e = at, e
		r.tokens = nil
	}
}

// next returns the next token without reading it, or at the end one of no kind.
func (r *parser) next() api.Token {
	if len(r.tokens) == 0 {
		return api.Token{Kind: api.None, Pos: r.end}
	}
	return r.tokens[0]
}

// read reads the next token if it may stand there, and fails otherwise.
func (r *parser) read(allowed bool) {
	if !allowed {
		r.fail(r.next().Pos, api.ErrSyntax)
		return
	}
	r.tokens = r.tokens[1:]
}

// stands reports whether the next token is a word or a sign.
func (r *parser) stands(text string) bool {
	t := r.next()
	return t.Text == text && (t.Kind == api.TkName || t.Kind == api.TkSign)
}

// skip reads a word or a sign if it stands there, and reports whether it does.
func (r *parser) skip(text string) bool {
	ok := r.stands(text)
	if ok {
		r.read(true)
	}
	return ok
}

// must reads a word or a sign that must stand there.
func (r *parser) must(text string) { r.read(r.stands(text)) }

func (r *parser) name() string {
	t := r.next()
	r.read(t.Kind == api.TkName && !reserved(t.Text))
	return t.Text
}

func (r *parser) number() int {
	t := r.next()
	r.read(t.Kind == api.TkNumber)
	return t.N
}

// list reads one or more parts with a word or a sign between them.
func (r *parser) list(between string, part func() api.Pred) []api.Pred {
	l := []api.Pred{part()}
	for r.skip(between) {
		l = append(l, part())
	}
	return l
}

// joined returns what a list denotes whose elements are joined to a node of a kind.
func joined(kind int, l []api.Pred) api.Pred {
	if len(l) == 1 {
		return l[0]
	}
	return api.Pred{Kind: kind, Kids: l}
}

func (r *parser) question() (string, api.Pred) {
	r.must("question")
	name := r.name()
	r.must("{")
	p := r.some()
	r.must("}")
	if t := r.next(); t.Kind != api.None {
		r.fail(t.Pos, api.ErrSyntax)
	}
	return name, p
}

func (r *parser) some() api.Pred { return joined(api.PrSome, r.list("or", r.all)) }

func (r *parser) all() api.Pred { return joined(api.PrAll, r.list("and", r.unit)) }

func (r *parser) unit() api.Pred {
	switch {
	case r.skip("not"):
		return negation(r.unit())
	case r.skip("("):
		p := r.some()
		r.must(")")
		return p
	case r.stands("at"):
		return r.least()
	}
	return r.condition()
}

func (r *parser) least() api.Pred {
	first := r.next().Pos
	r.must("at")
	r.must("least")
	n := r.number()
	r.must("of")
	r.must("(")
	kids := r.list(",", r.some)
	r.must(")")
	if n < 1 || n > len(kids) {
		r.fail(first, api.ErrRange)
	}
	return api.Pred{Kind: api.PrLeast, C: n, Kids: kids}
}

// condition reads a unit with a comparison sign, or with `in`.
func (r *parser) condition() api.Pred {
	first := r.next().Pos
	p := r.relation(r.sum())
	if !allFit(p) {
		r.fail(first, api.ErrRange)
	}
	return p
}

// relation reads what follows the first sum of a condition.
func (r *parser) relation(a sum) api.Pred {
	for _, c := range comparisons() {
		if r.skip(c.sign) {
			return c.pred(a, r.sum())
		}
	}
	r.must("in")
	r.must("{")
	ranges := r.list(",", func() api.Pred { return r.within(a) })
	r.must("}")
	return joined(api.PrSome, ranges)
}

// within reads a range, and returns what it denotes for a sum.
func (r *parser) within(a sum) api.Pred {
	first := r.next().Pos
	m := r.number()
	n := m
	if r.skip("..") {
		n = r.number()
	}
	if m > n {
		r.fail(first, api.ErrRange)
	}
	return both(atLeast(a, sum{offset: m}), atMost(a, sum{offset: n}))
}

func (r *parser) sum() sum {
	if r.skip("-") {
		return sum{offset: -r.number()}
	}
	if r.next().Kind != api.TkName {
		return sum{offset: r.number()}
	}
	a := sum{name: r.attribute()}
	if r.skip("+") {
		a.offset = r.number()
	} else if r.skip("-") {
		a.offset = -r.number()
	}
	return a
}

func (r *parser) attribute() string {
	first := r.name()
	r.must(".")
	return first + "." + r.name()
}
