package crowd

import "cloak/api"

// answers tells for which members of a valid crowd its questions hold. Each question is asked once, and only if it is needed.
type answers struct {
	crowd api.Crowd
	known map[int]members
}

// answersOf returns the answers of a crowd, and whether the crowd is valid.
func answersOf(c api.Crowd) (answers, bool) {
	return answers{c, make(map[int]members)}, ValidCrowd(c)
}

// to returns the members for which a question holds.
func (a answers) to(question int) members {
	set, ok := a.known[question]
	if !ok {
		p := a.crowd.Questions[question]
		set = those(len(a.crowd.Members), func(m int) bool { return holds(p, a.crowd.Members[m]) })
		a.known[question] = set
	}
	return set
}

// eligible returns the members that are eligible for a use.
func (a answers) eligible(use api.Seen) members {
	return a.to(use.Question) & inTime(a.crowd, use.AsOf) & named(a.crowd, use.Holder)
}

// toAll returns, for each of some questions, the members for which it holds, and whether the crowd is valid and has these questions.
func toAll(c api.Crowd, questions []int) ([]members, bool) {
	a, ok := answersOf(c)
	if !ok || !every(questions, func(q int) bool { return isIndex(q, len(c.Questions)) }) {
		return nil, false
	}
	return each(questions, a.to), true
}

// Common returns the members for which all of some questions hold.
func Common(c api.Crowd, questions []int) []int {
	sets, ok := toAll(c, questions)
	if !ok {
		return nil
	}
	common := all(len(c.Members))
	for _, set := range sets {
		common &= set
	}
	return common.list()
}

// Union returns the number of members for which at least one of some questions holds.
func Union(c api.Crowd, questions []int) (int, bool) {
	sets, ok := toAll(c, questions)
	var union members
	for _, set := range sets {
		union |= set
	}
	return union.size(), ok
}
