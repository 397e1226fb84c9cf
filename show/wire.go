package show

import (
	"slices"
	"strings"

	"cloak/api"
	"cloak/base"
	"cloak/proof"
)

// Context returns the context of the proof of a record.
func Context(t api.Task, r api.Record) string {
	text := []string{
		base.Nums([]int{t.Version, t.Most, t.Dare, t.Quorum, t.Jurors}),
		base.Text(t.Question),
		base.Texts(each(t.Passes, func(p api.Pass) string { return p.Name })),
		base.Nums(each(t.Passes, func(p api.Pass) int { return p.Pub })),
	}
	for _, p := range t.Passes {
		text = append(text, base.Texts(p.Attrs), base.Nums(p.Guests))
	}
	r.Proof = api.Proof{}
	record, _ := Encode(r) // a zero proof has an encoding
	return strings.Join(append(text, base.Nums(t.Revoked), record), "")
}

// Encode returns the encoding of a record.
func Encode(r api.Record) (string, bool) {
	p, ok := proof.Encode(r.Proof)
	if !ok {
		return "", false
	}
	var terms []string
	for _, links := range r.Links {
		for _, x := range links {
			terms = append(terms, x.Terms)
		}
	}
	return base.Texts(terms) + base.Nums(numbersOf(r)) + base.Text(p), true
}

// numbersOf returns the numbers of the encoding of a record.
func numbersOf(r api.Record) []int {
	l := putList(nil, r.Tickets, putTicket)
	l = putList(l, r.Spends, putSpend)
	l = putList(l, r.Links, func(l []int, links []api.Link) []int { return putList(l, links, putLink) })
	l = putNumbers(putNumbers(l, r.Commits), r.Chain)
	return putNumbers(putList(l, r.Bits, putNumbers), r.Escrow)
}

// putList appends the number of elements of a list, and what one appends for each of them.
func putList[T any](l []int, list []T, one func([]int, T) []int) []int {
	l = append(l, len(list))
	for _, x := range list {
		l = one(l, x)
	}
	return l
}

func putTicket(l []int, t api.Ticket) []int { return append(l, t.Mark, t.First, t.Z, t.A, t.B, t.R) }

func putSpend(l []int, x api.Spend) []int { return putNumbers(append(l, x.Dare), x.Answers) }

func putLink(l []int, x api.Link) []int { return putSpend(putTicket(l, x.Ticket), x.Spend) }

func putNumbers(l []int, list []int) []int { return append(append(l, len(list)), list...) }

// Decode returns the record that a string encodes.
func Decode(s string) (api.Record, bool) {
	text := base.OpenReader(s)
	parts := &parts{terms: text.Texts(), numbers: text.Nums()}
	p, _ := proof.Decode(text.Text())
	r := parts.record()
	r.Proof = p
	// Whatever was read from another string has another encoding.
	if again, ok := Encode(r); !ok || again != s {
		return api.Record{}, false
	}
	return r, true
}

// parts are the terms and the numbers of an encoding that have not been read yet. Where there are none, empty terms and zeros are read.
type parts struct {
	terms   []string
	numbers []int
}

func (p *parts) record() api.Record {
	return api.Record{
		Tickets: readList(p, p.ticket),
		Spends:  readList(p, p.spend),
		Links:   readList(p, func() []api.Link { return readList(p, p.link) }),
		Commits: p.list(),
		Chain:   p.list(),
		Bits:    readList(p, p.list),
		Escrow:  p.list(),
	}
}

// readList reads a count, and as many elements as it says.
func readList[T any](p *parts, one func() T) []T {
	var l []T
	for range p.count() {
		l = append(l, one())
	}
	return l
}

// count reads how many elements follow. Each of them takes at least one number, so that a greater count is wrong.
func (p *parts) count() int {
	n := p.number()
	return max(0, min(n, len(p.numbers)))
}

func (p *parts) number() int {
	if len(p.numbers) == 0 {
		return 0
	}
	n := p.numbers[0]
	p.numbers = p.numbers[1:]
	return n
}

func (p *parts) list() []int {
	n := p.count()
	l := slices.Clone(p.numbers[:n])
	p.numbers = p.numbers[n:]
	return l
}

func (p *parts) ticket() api.Ticket {
	return api.Ticket{Mark: p.number(), First: p.number(), Z: p.number(), A: p.number(), B: p.number(), R: p.number()}
}

func (p *parts) spend() api.Spend { return api.Spend{Dare: p.number(), Answers: p.list()} }

func (p *parts) link() api.Link {
	x := api.Link{Ticket: p.ticket(), Spend: p.spend()}
	if len(p.terms) > 0 {
		x.Terms = p.terms[0]
		p.terms = p.terms[1:]
	}
	return x
}
