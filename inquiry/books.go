package inquiry

import (
	"cloak/api"
	"cloak/ask"
	"cloak/gate"
	"cloak/proof"
	"cloak/purse"
)

// validBooks reports whether books are valid for a setup.
func validBooks(s api.Setup, b api.Books) bool {
	return proof.ValidSetup(s) && fitting(b) &&
		every(b.Doors, func(d api.Door) bool { return gate.ValidDoor(s, d) }) &&
		every(b.Labels, isQuestion) && every(b.Limits, purse.ValidLimit) &&
		every(b.Grants, func(g api.Left) bool { return isGrant(b.Limits, g) }) &&
		every(b.Holders, func(n int) bool { return n > 0 }) && areStatutes(b.Statutes)
}

// fitting reports whether the lists of books are not too long, and those that belong together have the same length.
func fitting(b api.Books) bool {
	return len(b.Gates) <= api.MaxGates && len(b.Doors) <= api.MaxDoors && len(b.Labels) <= api.MaxQuestions &&
		len(b.Limits) <= api.MaxLimits && len(b.Entries) <= api.MaxUses && len(b.Grants) <= api.MaxUses &&
		len(b.Votes) <= api.MaxUses && len(b.Openings) <= api.MaxUses &&
		len(b.Holders) == len(b.Grants) && len(b.Jurors) == len(b.Statutes)
}

// isQuestion reports whether a source text is a question.
func isQuestion(text string) bool {
	_, _, _, e := ask.Parse(text)
	return e == api.OK
}

// isGrant reports whether valid books with some limits can have a grant.
func isGrant(limits []api.Limit, g api.Left) bool {
	return isIndex(g.Limit, len(limits)) && g.Window >= 0 && g.Count >= 0 && g.Count <= api.MaxUses
}
