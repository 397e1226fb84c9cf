package inquiry

import (
	"slices"
	"strings"

	"cloak/api"
)

// holder is what the issuings of a holder say.
type holder struct {
	values  map[string]int
	tickets []int // for each key, how many
}

// account is an account of which some issuings and sights have been read.
type account struct {
	keys    []api.Pass
	log     []int
	holders map[int]*holder // by their numbers
	numbers []int           // of the members, once all issuings have been read
	crowd   api.Crowd
}

// Account returns the crowd of what was seen.
func Account(keys []api.Pass, log []int, issued []api.Issue, seen []api.Sight) (api.Crowd, []int, api.Errno) {
	if !areKeys(keys) || !isLog(log) {
		return api.Crowd{}, nil, api.ErrArg
	}
	a := account{keys: keys, log: log, holders: map[int]*holder{}}
	for _, x := range issued {
		if e := a.issue(x); e != api.OK {
			return api.Crowd{}, nil, e
		}
	}
	a.enroll()
	for _, x := range seen {
		if e := a.see(x); e != api.OK {
			return api.Crowd{}, nil, e
		}
	}
	return a.crowd, a.numbers, api.OK
}

// isLog reports whether a list is a revocation log.
func isLog(l []int) bool {
	if len(l) > api.MaxRevoked {
		return false
	}
	for i, n := range l {
		if n < 1 || slices.Contains(l[:i], n) {
			return false
		}
	}
	return true
}

// issue reads an issuing.
func (a *account) issue(x api.Issue) api.Errno {
	if !isIndex(x.Key, len(a.keys)) {
		return api.ErrArg
	}
	values, e := Values(a.keys[x.Key], x.Session.Attrs)
	if e != api.OK {
		return e
	}
	number := x.Session.Attrs[0] // there are more than the key has names
	if number < 1 {
		return api.ErrArg
	}
	h := a.holders[number]
	if h == nil {
		h = &holder{map[string]int{}, make([]int, len(a.keys))}
		a.holders[number] = h
	}
	for _, b := range values {
		if before, ok := h.values[b.Name]; ok && before != b.Value {
			return api.ErrFork
		}
		h.values[b.Name] = b.Value
	}
	h.tickets[x.Key]++
	if len(a.holders) > api.MaxHolders || h.tickets[x.Key] > api.MaxUses {
		return api.ErrFull
	}
	return api.OK
}

// enroll makes the holders of all issuings members, in ascending order.
func (a *account) enroll() {
	for number := range a.holders {
		a.numbers = append(a.numbers, number)
	}
	slices.Sort(a.numbers)
	for _, number := range a.numbers {
		h := a.holders[number]
		a.crowd.Members = append(a.crowd.Members, api.Member{
			Binds:   h.binds(),
			Tickets: h.tickets,
			Revoked: slices.Index(a.log, number), // None if it is not there
		})
	}
}

// binds returns the values in ascending order of their names.
func (h *holder) binds() []api.Bind {
	var l []api.Bind
	for name, value := range h.values {
		l = append(l, api.Bind{Name: name, Value: value})
	}
	slices.SortFunc(l, func(a, b api.Bind) int { return strings.Compare(a.Name, b.Name) })
	return l
}

// see reads a sight.
func (a *account) see(x api.Sight) api.Errno {
	p, e := Predicate(x.Task)
	if e != api.OK {
		return e
	}
	if links := x.Record.Links; len(x.Task.Passes) != 1 || len(links) > 1 || len(links) == 1 && len(links[0]) > 0 {
		return api.ErrForm
	}
	key := slices.IndexFunc(a.keys, func(k api.Pass) bool { return isKind(k, x.Task.Passes[0]) })
	known := len(x.Task.Revoked)
	who, ok := a.member(x.Holder)
	question := slices.IndexFunc(a.crowd.Questions, func(q api.Pred) bool { return samePred(p, q) })
	switch {
	case key < 0:
		return api.ErrNone
	case known > len(a.log) || !slices.Equal(x.Task.Revoked, a.log[:known]):
		return api.ErrStale
	case !ok:
		return api.ErrOwner
	case question < 0 && len(a.crowd.Questions) == api.MaxQuestions, len(a.crowd.Uses) == api.MaxUses:
		return api.ErrFull
	}
	if question < 0 {
		question = len(a.crowd.Questions)
		a.crowd.Questions = append(a.crowd.Questions, p)
	}
	a.crowd.Uses = append(a.crowd.Uses, api.Seen{Question: question, Window: key, AsOf: known, Holder: who})
	return api.OK
}

// member returns the index of the member with a number, or None for 0, which stands for nobody, and reports whether there is such a member.
func (a *account) member(number int) (int, bool) {
	if number == 0 {
		return api.None, true
	}
	return slices.BinarySearch(a.numbers, number)
}

// samePred reports whether two predicates are equal.
func samePred(p, q api.Pred) bool {
	return p.Kind == q.Kind && p.Left == q.Left && p.Right == q.Right && p.C == q.C && slices.EqualFunc(p.Kids, q.Kids, samePred)
}
