package inquiry_test

import (
	"fmt"
	"slices"
	"strconv"

	"cloak/api"
	"cloak/ask"
	"cloak/base"
	"cloak/field"
	"cloak/gate"
	"cloak/proof"
	"cloak/show"
)

// This file has the definitions of the chapter, written a second time.

// nums returns the encoding of numbers.
func nums(l ...int) string {
	b := []byte(strconv.Itoa(len(l)) + "[")
	for _, x := range l {
		b = append(strconv.AppendInt(b, int64(x), 10), ';')
	}
	return string(b) + "]"
}

// text returns the encoding of a string.
func text(s string) string { return fmt.Sprintf("%d:%s,", len(s), s) }

func within(n, low, high int) bool { return low <= n && n <= high }

// ownersOf returns the juror of each point of a statute.
func ownersOf(x api.Statute) []int {
	var l []int
	for j, n := range x.Weights {
		for range n {
			l = append(l, j)
		}
	}
	return l
}

// isStatute reports whether a statute is valid.
func isStatute(x api.Statute) bool {
	if !within(len(x.Reasons), 1, 16) || !within(len(x.Weights), 1, 12) {
		return false
	}
	reasons := map[string]bool{}
	for _, s := range x.Reasons {
		if !base.Name(s) {
			return false
		}
		reasons[s] = true
	}
	for _, n := range x.Weights {
		if !within(n, 0, 12) {
			return false
		}
	}
	n := len(ownersOf(x))
	return slices.IsSorted(x.Reasons) && len(reasons) == len(x.Reasons) && within(n, 1, 12) && within(x.Quorum, 1, n)
}

// seatsOf returns the points of a juror.
func seatsOf(x api.Statute, juror int) []int {
	var l []int
	if isStatute(x) {
		for i, j := range ownersOf(x) {
			if j == juror {
				l = append(l, i+1)
			}
		}
	}
	return l
}

// areStatutes reports whether a list is a list of statutes.
func areStatutes(l []api.Statute) bool {
	return within(len(l), 1, 16) && !slices.ContainsFunc(l, func(x api.Statute) bool { return !isStatute(x) })
}

// governed reports whether statutes govern a task.
func governed(l []api.Statute, t api.Task) bool {
	return areStatutes(l) && within(t.Version, 0, len(l)-1) && l[t.Version].Quorum == t.Quorum && len(ownersOf(l[t.Version])) == t.Jurors
}

// ballotOf returns the ballot of a vote.
func ballotOf(v api.Vote) string {
	var l []int
	for _, p := range v.Points {
		l = append(l, p.Juror, p.Share, p.Mask)
	}
	return nums(v.Juror, v.Version, v.Gate, v.No) + text(v.Reason) + nums(l...)
}

// judged returns the first error of a vote.
func judged(s api.Setup, keys []int, l []api.Statute, t api.Task, r api.Record, v api.Vote) api.Errno {
	if e := show.Check(s, t, r); e != api.OK {
		return e
	}
	if !governed(l, t) || v.Version != t.Version {
		return api.ErrNone
	}
	x := l[v.Version]
	var seats []int
	for _, p := range v.Points {
		seats = append(seats, p.Juror)
	}
	if !within(v.Juror, 0, len(x.Weights)-1) || !within(v.Juror, 0, len(keys)-1) || fmt.Sprint(seats) != fmt.Sprint(seatsOf(x, v.Juror)) {
		return api.ErrOwner
	}
	if !slices.Contains(x.Reasons, v.Reason) {
		return api.ErrName
	}
	if !proof.Signed(s, keys[v.Juror], ballotOf(v), v.Sig) {
		return api.ErrCheck
	}
	for _, p := range v.Points {
		if !show.CheckPoint(s, r.Commits[len(r.Commits)-1], r.Escrow, p) {
			return api.ErrCheck
		}
	}
	return api.OK
}

// opened returns the opening that votes lead to, or the first error.
func opened(s api.Setup, keys []int, l []api.Statute, t api.Task, r api.Record, number, no int, reason string, votes []api.Vote) (api.Opening, api.Errno) {
	if e := show.Check(s, t, r); e != api.OK {
		return api.Opening{}, e
	}
	if !governed(l, t) {
		return api.Opening{}, api.ErrNone
	}
	if !slices.Contains(l[t.Version].Reasons, reason) {
		return api.Opening{}, api.ErrName
	}
	o := api.Opening{Version: t.Version, Gate: number, No: no, Reason: reason}
	var xs, shares, masks []int
	for j := range l[t.Version].Weights {
		for _, v := range votes {
			if v.Juror == j && v.Gate == number && v.No == no && v.Reason == reason && judged(s, keys, l, t, r, v) == api.OK {
				o.Jurors = append(o.Jurors, j)
				for _, p := range v.Points {
					xs, shares, masks = append(xs, p.Juror), append(shares, p.Share), append(masks, p.Mask)
				}
				break
			}
		}
	}
	k := t.Quorum
	if len(xs) < k {
		return api.Opening{}, api.ErrQuorum
	}
	// The first points determine the polynomials, on which all others have to lie.
	for i := k; i < len(xs); i++ {
		if valueAt(s, xs[:k], shares[:k], xs[i]) != shares[i] || valueAt(s, xs[:k], masks[:k], xs[i]) != masks[i] {
			return api.Opening{}, api.ErrFork
		}
	}
	o.Holder = valueAt(s, xs[:k], shares[:k], 0)
	return o, api.OK
}

// valueAt returns the value at x of the polynomial through points.
func valueAt(s api.Setup, xs, ys []int, x int) int {
	weights, _ := field.Weights(s.Group.Q, xs, x)
	sum := 0
	for i, w := range weights {
		sum = field.Add(s.Group.Q, sum, field.Mul(s.Group.Q, w, ys[i]))
	}
	return sum
}

// isKeyPass reports whether a pass can be one of keys.
func isKeyPass(p api.Pass) bool {
	attrs := map[string]bool{}
	for _, a := range p.Attrs {
		if !ask.ValidName(p.Name + "." + a) {
			return false
		}
		attrs[a] = true
	}
	return base.Name(p.Name) && len(attrs) == len(p.Attrs) && len(attrs) <= 5
}

// areKeyPasses reports whether a list is a list of keys.
func areKeyPasses(l []api.Pass) bool {
	for i, p := range l {
		for k, q := range l {
			if p.Name == q.Name && (fmt.Sprintf("%q", p.Attrs) != fmt.Sprintf("%q", q.Attrs) || i != k && p.Pub == q.Pub) {
				return false
			}
		}
		if !isKeyPass(p) {
			return false
		}
	}
	return within(len(l), 1, 16)
}

// isRevocationLog reports whether a list is a revocation log.
func isRevocationLog(l []int) bool {
	set := map[int]bool{}
	for _, n := range l {
		set[n] = true
	}
	return len(l) <= 16 && len(set) == len(l) && !slices.ContainsFunc(l, func(n int) bool { return n <= 0 })
}

// valuesOf returns the values of a pass, or the first error.
func valuesOf(p api.Pass, attrs []int) (map[string]int, api.Errno) {
	if !isKeyPass(p) || len(attrs) < 1+len(p.Attrs) {
		return nil, api.ErrArg
	}
	l := map[string]int{}
	for i, a := range p.Attrs {
		if !within(attrs[1+i], 0, 65535) {
			return nil, api.ErrRange
		}
		l[p.Name+"."+a] = attrs[1+i]
	}
	return l, api.OK
}

// predicateOf returns the predicate of a task, or the first error.
func predicateOf(t api.Task) (api.Pred, api.Errno) {
	_, p, _, e := ask.Parse(t.Question)
	if e != api.OK {
		return api.Pred{}, e
	}
	if !within(t.Most, 0, 65535) {
		return api.Pred{}, api.ErrRange
	}
	kids := []api.Pred{p}
	for _, name := range ask.Names(p) {
		kids = append(kids, api.Pred{Kind: api.PrAtom, Left: name, Right: "", C: t.Most})
	}
	if len(kids) > 1 {
		p = api.Pred{Kind: api.PrAll, Kids: kids}
	}
	if !ask.ValidPred(p) {
		return api.Pred{}, api.ErrFull
	}
	return p, api.OK
}

// issueError returns the first error of the issuing with an index.
func issueError(keys []api.Pass, issued []api.Issue, i int) api.Errno {
	x := issued[i]
	if !within(x.Key, 0, len(keys)-1) {
		return api.ErrArg
	}
	values, e := valuesOf(keys[x.Key], x.Session.Attrs)
	if e != api.OK {
		return e
	}
	if x.Session.Attrs[0] < 1 {
		return api.ErrArg
	}
	holders, n := map[int]bool{}, 0
	for _, y := range issued[:i+1] {
		holders[y.Session.Attrs[0]] = true
		if y.Session.Attrs[0] != x.Session.Attrs[0] {
			continue
		}
		if y.Key == x.Key {
			n++
		}
		before, _ := valuesOf(keys[y.Key], y.Session.Attrs)
		for name, value := range before {
			if other, ok := values[name]; ok && other != value {
				return api.ErrFork
			}
		}
	}
	if len(holders) > 64 || n > 4096 {
		return api.ErrFull
	}
	return api.OK
}

// membersOf returns the members of an account, and their numbers.
func membersOf(keys []api.Pass, log []int, issued []api.Issue) ([]api.Member, []int) {
	var numbers []int
	for _, x := range issued {
		numbers = append(numbers, x.Session.Attrs[0])
	}
	slices.Sort(numbers)
	numbers = slices.Compact(numbers)
	var members []api.Member
	for _, number := range numbers {
		m := api.Member{Tickets: make([]int, len(keys)), Revoked: api.None}
		for i, n := range log {
			if n == number {
				m.Revoked = i
			}
		}
		var names []string
		values := map[string]int{}
		for _, x := range issued {
			if x.Session.Attrs[0] == number {
				m.Tickets[x.Key]++
				l, _ := valuesOf(keys[x.Key], x.Session.Attrs)
				for name, value := range l {
					names, values[name] = append(names, name), value
				}
			}
		}
		slices.Sort(names)
		for _, name := range slices.Compact(names) {
			m.Binds = append(m.Binds, api.Bind{Name: name, Value: values[name]})
		}
		members = append(members, m)
	}
	return members, numbers
}

// accounted returns the account, and the numbers of its members, or the first error.
func accounted(keys []api.Pass, log []int, issued []api.Issue, seen []api.Sight) (api.Crowd, []int, api.Errno) {
	if !areKeyPasses(keys) || !isRevocationLog(log) {
		return api.Crowd{}, nil, api.ErrArg
	}
	for i := range issued {
		if e := issueError(keys, issued, i); e != api.OK {
			return api.Crowd{}, nil, e
		}
	}
	var c api.Crowd
	var numbers []int
	c.Members, numbers = membersOf(keys, log, issued)
	var questions []string
	for i, x := range seen {
		p, e := predicateOf(x.Task)
		if e != api.OK {
			return api.Crowd{}, nil, e
		}
		if len(x.Task.Passes) != 1 || len(x.Record.Links) > 1 || len(slices.Concat(x.Record.Links...)) > 0 {
			return api.Crowd{}, nil, api.ErrForm
		}
		key := -1
		for k, p := range keys {
			if q := x.Task.Passes[0]; p.Name == q.Name && p.Pub == q.Pub && fmt.Sprintf("%q", p.Attrs) == fmt.Sprintf("%q", q.Attrs) {
				key = k
			}
		}
		if key < 0 {
			return api.Crowd{}, nil, api.ErrNone
		}
		known := len(x.Task.Revoked)
		if known > len(log) || fmt.Sprint(x.Task.Revoked) != fmt.Sprint(log[:known]) {
			return api.Crowd{}, nil, api.ErrStale
		}
		u := api.Seen{Question: slices.Index(questions, fmt.Sprint(p)), Window: key, AsOf: known, Holder: slices.Index(numbers, x.Holder)}
		if u.Holder < 0 && x.Holder != 0 {
			return api.Crowd{}, nil, api.ErrOwner
		}
		if u.Question < 0 {
			u.Question = len(questions)
			c.Questions, questions = append(c.Questions, p), append(questions, fmt.Sprint(p))
		}
		if len(questions) > 128 || i >= 4096 {
			return api.Crowd{}, nil, api.ErrFull
		}
		c.Uses = append(c.Uses, u)
	}
	return c, numbers, api.OK
}

// supported reports whether an opening is supported.
func supported(s api.Setup, b api.Books, o api.Opening) bool {
	if !within(o.Version, 0, len(b.Jurors)-1) {
		return false
	}
	var votes []api.Vote
	for _, v := range b.Votes {
		if slices.Contains(o.Jurors, v.Juror) {
			votes = append(votes, v)
		}
	}
	l := gate.Join(s, b.Gates, nil, b.Entries)
	for _, x := range l {
		for _, y := range l {
			if x.Kind != api.EnShow || x.Gate != o.Gate || x.No != o.No || y.Kind != api.EnAsk || y.Gate != o.Gate || y.No != x.Nums[0] {
				continue
			}
			t, _ := gate.DecodeTask(y.Text)
			r, _ := show.Decode(x.Text)
			if got, e := opened(s, b.Jurors[o.Version], b.Statutes, t, r, o.Gate, o.No, o.Reason, votes); e == api.OK && same(got, o) {
				return true
			}
		}
	}
	return false
}

// found returns the findings of valid books.
func found(s api.Setup, b api.Books) []api.Finding {
	set := map[api.Finding]bool{}
	for _, c := range gate.Charges(s, b.Gates, b.Doors, b.Entries) {
		set[api.Finding{Kind: 0, A: c.Gate, B: c.Reason}] = true
	}
	for _, x := range gate.Exposed(s, b.Gates, b.Entries) {
		set[api.Finding{Kind: 1, A: x.Attrs[0]}] = true
	}
	var labels []api.Pred
	for _, s := range b.Labels {
		_, p, _, _ := ask.Parse(s)
		labels = append(labels, p)
	}
	for i, d := range b.Doors {
		_, p, _, _ := ask.Parse(d.Task.Question)
		_, _, more, e := ask.Discloses(p, labels, d.Task.Most)
		if more {
			set[api.Finding{Kind: 2, A: i}] = true
		}
		if e != api.OK {
			set[api.Finding{Kind: 2, A: i, B: int(e)}] = true
		}
	}
	for i, g := range b.Grants {
		sum := 0
		for k, h := range b.Grants {
			if b.Holders[k] == b.Holders[i] && h.Limit == g.Limit && h.Window == g.Window {
				sum += h.Count
			}
		}
		if sum > b.Limits[g.Limit].Count {
			set[api.Finding{Kind: 3, A: b.Holders[i], B: g.Limit}] = true
		}
	}
	for i, o := range b.Openings {
		if !supported(s, b, o) {
			set[api.Finding{Kind: 4, A: i}] = true
		}
	}
	var l []api.Finding
	for x := range set {
		l = append(l, x)
	}
	slices.SortFunc(l, func(x, y api.Finding) int {
		return slices.Compare([]int{x.Kind, x.A, x.B}, []int{y.Kind, y.A, y.B})
	})
	return l
}
