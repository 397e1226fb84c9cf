package crowd

import "math/bits"

// members is a set of members: bit i stands for the member with the index i. A crowd has no more members than there are bits.
type members uint64

// only returns the set of one member.
func only(member int) members { return 1 << member }

// all returns the set of the first n members.
func all(n int) members { return only(n) - 1 }

// those returns the set of those of the first n members for which a function is true.
func those(n int, is func(member int) bool) members {
	var s members
	for m := range n {
		if is(m) {
			s |= only(m)
		}
	}
	return s
}

// has reports whether a member is in the set.
func (s members) has(member int) bool { return s&only(member) != 0 }

// size returns how many members are in the set.
func (s members) size() int { return bits.OnesCount64(uint64(s)) }

// first returns the first member of a set that is not empty.
func (s members) first() int { return bits.TrailingZeros64(uint64(s)) }

// list returns the members of the set in ascending order.
func (s members) list() []int {
	r := make([]int, 0, s.size())
	for ; s != 0; s &= s - 1 {
		r = append(r, s.first())
	}
	return r
}
