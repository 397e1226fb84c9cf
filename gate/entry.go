package gate

import (
	"cmp"
	"slices"
	"strings"

	"cloak/api"
	"cloak/base"
	"cloak/field"
	"cloak/proof"
	"cloak/show"
)

// maxError is the greatest error of an EnRefuse.
const maxError = 100

// body returns the body of an entry.
func body(e api.Entry) string {
	return base.Nums([]int{e.Gate, e.No, e.Time, e.Kind}) + base.Nums(e.Nums) + base.Text(e.Text)
}

// Encode returns the encoding of an entry.
func Encode(e api.Entry) string { return body(e) + base.Nums([]int{e.Sig.C, e.Sig.S}) }

// Decode returns the entry with an encoding.
func Decode(text string) (api.Entry, bool) {
	r := base.OpenReader(text)
	l := readNumbers(r, 4)
	e := api.Entry{Gate: l[0], No: l[1], Time: l[2], Kind: l[3], Nums: r.Nums(), Text: r.Text()}
	sig := readNumbers(r, 2)
	e.Sig = api.Signature{C: sig[0], S: sig[1]}
	// Whatever was read from another string has another encoding.
	if Encode(e) != text {
		return api.Entry{}, false
	}
	return e, true
}

// copyEntry returns an entry that shares no memory with e.
func copyEntry(e api.Entry) api.Entry {
	e.Nums = slices.Clone(e.Nums)
	return e
}

// hasForm reports whether an entry has form for a valid setup.
func hasForm(s api.Setup, e api.Entry) bool {
	if !isGate(e.Gate) || !isNo(e.No) || !isTime(e.Time) {
		return false
	}
	n := e.Nums
	switch e.Kind {
	case api.EnLearn:
		return e.Text == "" && isSet(n, api.MaxRevoked, func(x int) bool { return isDare(s, x) })
	case api.EnSync:
		return e.Text == "" && len(n) == 2 && every(n, isTime) && n[0] <= n[1]
	case api.EnHear:
		return e.Text == "" && len(n) == 2 && isGate(n[0]) && n[0] != e.Gate && isNo(n[1])
	case api.EnAsk:
		t, ok := DecodeTask(e.Text)
		return ok && len(n) == 2 && n[0] >= 0 && n[0] < api.MaxDoors && isDare(s, n[1]) && t.Dare == n[1]
	case api.EnShow:
		_, ok := show.Decode(e.Text)
		return ok && len(n) == 1 && n[0] >= 0 && n[0] < e.No
	case api.EnRefuse:
		return e.Text == "" && len(n) == 2 && n[0] >= 0 && n[0] < e.No && n[1] >= 1 && n[1] <= maxError
	case api.EnRecall:
		return e.Text == "" && isSet(n, api.MaxRecalled, func(x int) bool { return isProper(s, x) })
	}
	return false
}

// isNo reports whether n can be the number of an entry.
func isNo(n int) bool { return n >= 0 && n < api.MaxUses }

// isSet reports whether a list has at least one and at most a number of elements, all of which are right and pairwise different.
func isSet(l []int, most int, right func(n int) bool) bool {
	return len(l) >= 1 && len(l) <= most && every(l, right) && different(l)
}

// Seal returns an entry with its signature.
func Seal(s api.Setup, secret int, e api.Entry) (api.Entry, bool) {
	if !proof.ValidSetup(s) || !hasForm(s, e) || !isDare(s, secret) {
		return api.Entry{}, false
	}
	e = copyEntry(e)
	text := body(e)
	e.Sig, _ = proof.Sign(s, secret, field.Number(base.Num(secret)+text, s.Group.Q), text)
	return e, true
}

// Signed reports whether an entry is signed.
func Signed(s api.Setup, keys []int, e api.Entry) bool {
	return proof.ValidSetup(s) && signed(s, keys, e)
}

// signed reports whether an entry is signed for a valid setup.
func signed(s api.Setup, keys []int, e api.Entry) bool {
	return e.Gate >= 0 && e.Gate < len(keys) && signedBy(s, keys[e.Gate], e)
}

// signedBy reports whether an entry has form for a valid setup, and is signed with a key.
func signedBy(s api.Setup, key int, e api.Entry) bool {
	return hasForm(s, e) && proof.Signed(s, key, body(e), e.Sig)
}

// coded is an entry with its encoding.
type coded struct {
	api.Entry
	text string
}

// code returns an entry with its encoding.
func code(e api.Entry) coded { return coded{e, Encode(e)} }

// compare compares entries as they are ordered.
func (a coded) compare(b coded) int {
	return cmp.Or(cmp.Compare(a.Gate, b.Gate), cmp.Compare(a.No, b.No), strings.Compare(a.text, b.text))
}
