package crowd

import (
	"math/bits"

	"cloak/api"
)

// most is the greatest number of assignments that is counted. All greater numbers are treated as most + 1, so that no sum or product overflows.
const most = 1 << 60

// plus returns the sum of two numbers up to most + 1.
func plus(a, b int) int { return min(a+b, most+1) }

// times returns the product of two numbers up to most + 1.
func times(a, b int) int {
	if high, low := bits.Mul64(uint64(a), uint64(b)); high == 0 && low <= most {
		return int(low)
	}
	return most + 1
}

// Count returns the number of assignments of a crowd.
func Count(c api.Crowd) (int, api.Errno) {
	v, ok := look(c)
	if !ok {
		return 0, api.ErrArg
	}
	return v.count()
}

// Shares returns, for each member, the number of assignments that give a use to it.
func Shares(c api.Crowd, use int) ([]int, api.Errno) {
	v, ok := lookAt(c, use)
	if !ok {
		return nil, api.ErrArg
	}
	n, e := v.count()
	if e != api.OK {
		return nil, e
	}
	if n == 0 {
		return make([]int, len(c.Members)), api.OK
	}
	g := v.group(c.Uses[use].Window)
	others := n / g.count()
	return each(g.shares(use), func(share int) int { return share * others }), api.OK
}

// count returns the number of assignments.
func (v view) count() (int, api.Errno) {
	groups := v.groups()
	none := false
	for _, g := range groups {
		if len(g.uses) > api.MaxCounted {
			return 0, api.ErrFull
		}
		_, blocked := g.match()
		none = none || len(blocked) > 0
	}
	if none {
		return 0, api.OK
	}
	// From here on each group has an assignment, so a product that is too great remains so.
	total := 1
	for _, g := range groups {
		if total = times(total, g.count()); total > most {
			return 0, api.ErrFull
		}
	}
	return total, api.OK
}
