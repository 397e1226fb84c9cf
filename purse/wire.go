package purse

import (
	"strings"

	"cloak/api"
	"cloak/base"
	"cloak/ticket"
)

// Encode returns the encoding of a held ticket.
func Encode(h api.Held) string {
	text := []string{
		base.Nums([]int{h.Limit, h.Window}),
		base.Nums(h.Attrs),
		base.Nums([]int{h.Blinding.S, h.Blinding.U, h.Blinding.V}),
		base.Nums(h.Blinding.Ys),
		ticket.Encode(h.Ticket),
		base.Num(len(h.Links)),
	}
	for _, x := range h.Links {
		text = append(text, ticket.Encode(x.Ticket), base.Int(x.Spend.Dare), base.Nums(x.Spend.Answers), base.Text(x.Terms))
	}
	return strings.Join(text, "")
}

// Decode returns the held ticket with an encoding.
func Decode(s string) (api.Held, bool) {
	r := base.OpenReader(s)
	place := readNumbers(r, 2)
	h := api.Held{Limit: place[0], Window: place[1], Attrs: r.Nums()}
	secret := readNumbers(r, 3)
	h.Blinding = api.Blinding{S: secret[0], U: secret[1], V: secret[2], Ys: r.Nums()}
	h.Ticket = readTicket(r)
	for range min(r.Num(), api.MaxLinks) {
		h.Links = append(h.Links, api.Link{
			Ticket: readTicket(r),
			Spend:  api.Spend{Dare: r.Int(), Answers: r.Nums()},
			Terms:  r.Text(),
		})
	}
	// Whatever was read from another string, or from one with more links, has another encoding.
	if Encode(h) != s {
		return api.Held{}, false
	}
	return h, true
}

// readNumbers reads a list, of which it returns n numbers. Where there are fewer, they are followed by zeros.
func readNumbers(r *base.Reader, n int) []int {
	l := make([]int, n)
	copy(l, r.Nums())
	return l
}

func readTicket(r *base.Reader) api.Ticket {
	l := readNumbers(r, 6)
	return api.Ticket{Mark: l[0], First: l[1], Z: l[2], A: l[3], B: l[4], R: l[5]}
}
