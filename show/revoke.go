package show

import "cloak/field"

// Witness returns the witness of a holder for entries of the revocation log.
func Witness(q, number int, revoked []int) int {
	w := field.Mul(q, 1, 1)
	for _, x := range revoked {
		w = field.Mul(q, w, field.Sub(q, number, x))
	}
	return w
}

// Update returns a witness that is brought up to date by further entries.
func Update(q, witness, number int, part []int) int {
	return field.Mul(q, witness, Witness(q, number, part))
}
