package show

import (
	"slices"

	"cloak/api"
	"cloak/field"
	"cloak/proof"
)

// committed returns the values to which the elements of Commits and of Chain are commitments.
func (h *holder) committed() []int {
	l := slices.Concat(h.values, []int{h.number})
	for k := range h.chained() {
		l = append(l, Witness(h.Group.Q, h.number, h.task.Revoked[:k+2]))
	}
	return l
}

// gap returns the gap of an atom.
func (h *holder) gap(a api.Pred) int {
	return a.C - h.of(a.Left, h.values, 0) + h.of(a.Right, h.values, 0)
}

// split returns commitments to the bits of the gaps of the atoms, or of 0 for negative ones, and what the holder knows of them.
func (h *holder) split(blinds [][]int) ([][]int, [][]api.Know) {
	var all [][]int
	var know [][]api.Know
	for i, a := range h.atoms {
		bits, known, _ := proof.Split(h.Setup, max(0, h.gap(a)), blinds[i])
		all = append(all, bits)
		know = append(know, known...)
	}
	return all, know
}

// knowledge returns what the holder knows for the goal of a record, for coins that have form.
func (h *holder) knowledge(c api.Coins) [][]api.Know {
	_, bits := h.split(c.Bits)
	know := slices.Concat([][]api.Know{{{Has: true, Values: h.identityValues(c.Blinds)}}}, bits)
	for _, choice := range h.choices {
		know = append(know, each(choice.Atoms, func(a api.Pred) api.Know { return h.knows(a, c) }))
	}
	return know
}

// knows returns what the holder knows for the claim of an atom.
func (h *holder) knows(a api.Pred, c api.Coins) api.Know {
	if h.gap(a) < 0 {
		return api.Know{}
	}
	// The bits weigh what the coefficients of a polynomial do at 2.
	weight := field.At(h.Group.Q, c.Bits[indexOf(h.atoms, a)], 2)
	rest := h.sub(h.of(a.Right, c.Blinds, 0), h.of(a.Left, c.Blinds, 0))
	return api.Know{Has: true, Values: []int{h.sub(weight, rest)}}
}

// identityValues returns the values of the variables of the first claim, in the order in which identity allocates them.
func (h *holder) identityValues(blinds []int) []int {
	l := []int{h.number}
	for _, x := range h.held {
		l = append(l, h.invert(x.Blinding.S))
		l = append(l, x.Attrs[1:]...)
	}
	l = append(l, blinds[:len(h.names)+1]...)
	return append(l, h.revocationValues(blinds[len(h.names):])...)
}

// revocationValues returns the values of the variables for the revocation log, where blinds are those of the commitment to the number and of Chain.
func (h *holder) revocationValues(blinds []int) []int {
	revoked := h.task.Revoked
	if len(revoked) == 0 {
		return nil
	}
	var l []int
	for k, r := range blinds[1:] {
		l = append(l, h.sub(r, h.mul(blinds[k], h.sub(h.number, revoked[k+1]))))
	}
	inverse := h.invert(Witness(h.Group.Q, h.number, revoked))
	return append(l, inverse, h.mul(-inverse, blinds[len(blinds)-1]))
}
