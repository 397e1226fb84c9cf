package show

import (
	"cloak/api"
	"cloak/base"
	"cloak/field"
)

// coinsForm reports whether coins have form. Whether their noise fits the goal of the record is for the proof to find.
func (p plan) coinsForm(c api.Coins) bool {
	n := p.task.Quorum - 1
	if len(c.Blinds) != p.blinds() || len(c.Shares) != n || len(c.Masks) != n {
		return false
	}
	return p.exponents(c.Blinds...) && p.exponents(c.Shares...) && p.exponents(c.Masks...) && p.bitsForm(c.Bits, p.exponents)
}

// blinds returns how many Blinds coins have.
func (p plan) blinds() int { return len(p.names) + 1 + p.chained() }

// Toss returns coins for tickets whose numbers are derived from a seed.
func Toss(s api.Setup, t api.Task, held []api.Held, seed string) (api.Coins, api.Errno) {
	h, e := fit(s, t, held)
	if e != api.OK {
		return api.Coins{}, e
	}
	i := 0
	toss := func() int {
		n := field.Number(base.Text(seed)+base.Num(i), s.Group.Q)
		i++
		return n
	}
	c := api.Coins{Blinds: repeat(h.blinds(), toss)}
	c.Bits = each(h.atoms, func(api.Pred) []int { return repeat(Width(t.Most), toss) })
	c.Shares = repeat(t.Quorum-1, toss)
	c.Masks = repeat(t.Quorum-1, toss)
	r, _ := h.unproven(c)
	c.Noise = tossNoise(h.goal(r), h.knowledge(c), toss)
	return c, api.OK
}

// tossNoise returns noise that matches knowledge, all of which is right.
func tossNoise(goal []api.Clause, know [][]api.Know, toss func() int) api.Noise {
	var noise api.Noise
	for i, clause := range goal {
		proven := 0
		var dares []int
		var nums [][]int
		for k, claim := range clause.Claims {
			dare := 0
			if know[i][k].Has && proven < clause.Need {
				proven++
			} else {
				dare = toss()
			}
			dares = append(dares, dare)
			nums = append(nums, repeat(claim.Vars, toss))
		}
		noise.Dares, noise.Nums = append(noise.Dares, dares), append(noise.Nums, nums)
	}
	return noise
}

// repeat returns what n calls of a function return.
func repeat(n int, one func() int) []int {
	l := make([]int, n)
	for i := range l {
		l[i] = one()
	}
	return l
}
