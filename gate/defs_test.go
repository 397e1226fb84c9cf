package gate_test

import (
	"fmt"
	"slices"
	"strconv"
	"strings"

	"cloak/api"
	"cloak/ask"
	"cloak/base"
	"cloak/field"
	"cloak/gate"
	"cloak/proof"
	"cloak/show"
	"cloak/ticket"
)

// This file has the definitions of the chapter, written a second time.

// nums returns the encoding of numbers.
func nums(l ...int) string {
	b := []byte(strconv.Itoa(len(l)) + "[")
	for _, x := range l {
		b = append(strconv.AppendInt(b, int64(x), 10), ';')
	}
	return string(b) + "]"
}

// text returns the encoding of a string.
func text(s string) string { return fmt.Sprintf("%d:%s,", len(s), s) }

// taskText returns the encoding of a task.
func taskText(t api.Task) string {
	s := nums(t.Version, t.Most, t.Dare, t.Quorum, t.Jurors) + text(t.Question) + nums(t.Revoked...) + fmt.Sprintf("%d;", len(t.Passes))
	for _, p := range t.Passes {
		s += text(p.Name) + fmt.Sprintf("%d;%d[", p.Pub, len(p.Attrs))
		for _, a := range p.Attrs {
			s += text(a)
		}
		s += "]" + nums(p.Guests...)
	}
	return s
}

// bodyOf returns the body of an entry.
func bodyOf(e api.Entry) string {
	return nums(e.Gate, e.No, e.Time, e.Kind) + nums(e.Nums...) + text(e.Text)
}

// entryText returns the encoding of an entry.
func entryText(e api.Entry) string { return bodyOf(e) + nums(e.Sig.C, e.Sig.S) }

// listText returns a text that determines entries.
func listText(l []api.Entry) string {
	var b strings.Builder
	for _, e := range l {
		b.WriteString(entryText(e) + "\n")
	}
	return b.String()
}

func isZeroEntry(e api.Entry) bool { return entryText(e) == "4[0;0;0;0;]0[]0:,2[0;0;]" }

func isZeroTask(t api.Task) bool { return taskText(t) == "5[0;0;0;0;0;]0:,0[]0;" }

func within(n, low, high int) bool { return low <= n && n <= high }

// distinct reports whether all numbers are different, and in a range.
func distinct(l []int, low, high int) bool {
	for i, n := range l {
		if !within(n, low, high) || slices.Contains(l[:i], n) {
			return false
		}
	}
	return true
}

// formed reports whether an entry has form.
func formed(s api.Setup, e api.Entry) bool {
	if !within(e.Gate, 0, 23) || !within(e.No, 0, 4095) || !within(e.Time, 0, 1<<31) {
		return false
	}
	n := e.Nums
	if e.Kind != api.EnAsk && e.Kind != api.EnShow && e.Text != "" {
		return false
	}
	switch e.Kind {
	case api.EnLearn:
		return within(len(n), 1, 16) && distinct(n, 1, s.Group.Q-1)
	case api.EnRecall:
		return within(len(n), 1, 32) && distinct(n, 2, s.Group.P-1) && !slices.ContainsFunc(n, func(x int) bool { return !field.Element(s.Group, x) })
	case api.EnShow:
		_, ok := show.Decode(e.Text)
		return ok && len(n) == 1 && within(n[0], 0, e.No-1)
	}
	if len(n) != 2 {
		return false
	}
	switch e.Kind {
	case api.EnSync:
		return 0 <= n[0] && n[0] <= n[1] && n[1] <= 1<<31
	case api.EnHear:
		return within(n[0], 0, 23) && n[0] != e.Gate && within(n[1], 0, 4095)
	case api.EnAsk:
		t, ok := gate.DecodeTask(e.Text)
		return ok && t.Dare == n[1] && within(n[0], 0, 15) && within(n[1], 1, s.Group.Q-1)
	case api.EnRefuse:
		return within(n[0], 0, e.No-1) && within(n[1], 1, 100)
	}
	return false
}

// isSigned reports whether an entry is signed for keys.
func isSigned(s api.Setup, keys []int, e api.Entry) bool {
	return proof.ValidSetup(s) && formed(s, e) && e.Gate < len(keys) && proof.Signed(s, keys[e.Gate], bodyOf(e), e.Sig)
}

// dareOf returns the challenge of a gate with a serial, or 0.
func dareOf(s api.Setup, number, serial int) int {
	if n := serial*24 + number + 1; n <= s.Group.Q/2 {
		return n
	}
	return 0
}

// isLog reports whether entries are a log of a gate with a key.
func isLog(s api.Setup, key, number int, l []api.Entry) bool {
	asks, answered := map[int]bool{}, map[int]bool{}
	var known, recalled []int
	for i, e := range l {
		if !formed(s, e) || !proof.Signed(s, key, bodyOf(e), e.Sig) || e.Gate != number || e.No != i || i > 0 && e.Time < l[i-1].Time {
			return false
		}
		switch e.Kind {
		case api.EnLearn:
			known = append(known, e.Nums...)
		case api.EnRecall:
			recalled = append(recalled, e.Nums...)
		case api.EnAsk:
			if e.Nums[1] != dareOf(s, number, len(asks)) {
				return false
			}
			asks[i] = true
		case api.EnShow, api.EnRefuse:
			if n := e.Nums[0]; !asks[n] || answered[n] {
				return false
			}
			answered[e.Nums[0]] = true
		}
	}
	return len(l) <= 4096 && len(known) <= 16 && len(recalled) <= 32 && distinct(known, 1, s.Group.Q) && distinct(recalled, 1, s.Group.P)
}

// numbersOf returns the numbers of all entries of a kind.
func numbersOf(l []api.Entry, kind int) []int {
	var all []int
	for _, e := range l {
		if e.Kind == kind {
			all = append(all, e.Nums...)
		}
	}
	return all
}

// precedes reports whether a is before b in order.
func precedes(a, b api.Entry) bool {
	if a.Gate != b.Gate {
		return a.Gate < b.Gate
	}
	return a.No < b.No || a.No == b.No && entryText(a) < entryText(b)
}

// joinedOf returns the joined list of entries.
func joinedOf(s api.Setup, keys []int, l []api.Entry) []api.Entry {
	var all []api.Entry
	for _, e := range l {
		if !isSigned(s, keys, e) {
			continue
		}
		i := 0
		for i < len(all) && precedes(all[i], e) {
			i++
		}
		if i == len(all) || entryText(all[i]) != entryText(e) {
			all = slices.Insert(all, i, e)
		}
	}
	return all
}

// spent is a spend of a record, with its ticket.
type spent struct {
	ticket api.Ticket
	spend  api.Spend
}

// spendsOf returns the spends of a record.
func spendsOf(r api.Record) []spent {
	var l []spent
	for i, t := range r.Tickets {
		for _, x := range slices.Concat(r.Links[min(i, len(r.Links)):min(i+1, len(r.Links))]...) {
			l = append(l, spent{x.Ticket, x.Spend})
		}
		for _, x := range r.Spends[min(i, len(r.Spends)):min(i+1, len(r.Spends))] {
			l = append(l, spent{t, x})
		}
	}
	return l
}

// shareMark reports whether spends of two records have tickets with the same mark.
func shareMark(a, b api.Record) bool {
	for _, x := range spendsOf(a) {
		for _, y := range spendsOf(b) {
			if x.ticket.Mark == y.ticket.Mark {
				return true
			}
		}
	}
	return false
}

// readTerms returns what terms say.
func readTerms(s string) (until int, question string, ok bool) {
	r := base.OpenReader(s)
	until, question = r.Num(), r.Text()
	ok = r.Done() && until <= 1<<31 && len(question) <= 20
	return until, question, ok
}

// linkError returns the error of the link with an index, for a task, a time, and what is recalled.
func linkError(t api.Task, links []api.Link, i, time int, recalled []int) api.Errno {
	until, question, ok := readTerms(links[i].Terms)
	if !ok {
		return api.ErrForm
	}
	if i > 0 {
		end, other, is := readTerms(links[i-1].Terms)
		if !is || until > end || other != "" && other != question {
			return api.ErrForm
		}
	}
	if name, _, _, _ := ask.Parse(t.Question); question != "" && question != name {
		return api.ErrForm
	}
	if until < time {
		return api.ErrStale
	}
	if slices.Contains(recalled, links[i].Ticket.Mark) {
		return api.ErrRevoked
	}
	return api.OK
}

// linksError returns the first error of the links of a record.
func linksError(t api.Task, r api.Record, time int, recalled []int) api.Errno {
	for _, links := range r.Links {
		for i := range links {
			if e := linkError(t, links, i, time, recalled); e != api.OK {
				return e
			}
		}
	}
	return api.OK
}

// taskOf and recordOf return what the text of an entry encodes.
func taskOf(e api.Entry) api.Task {
	t, _ := gate.DecodeTask(e.Text)
	return t
}

func recordOf(e api.Entry) api.Record {
	r, _ := show.Decode(e.Text)
	return r
}

// isAnswer reports whether an entry answers an EnAsk.
func isAnswer(e api.Entry) bool { return e.Kind == api.EnShow || e.Kind == api.EnRefuse }

// holds reports whether a charge holds, for a setup that is valid.
func holds(s api.Setup, keys []int, doors []api.Door, c api.Charge) bool {
	if !isSigned(s, keys, c.A) || c.Gate != c.A.Gate {
		return false
	}
	if isZeroEntry(c.B) {
		return breaksAlone(s, doors, c.Reason, c.A)
	}
	return isSigned(s, keys, c.B) && c.Gate == c.B.Gate && breaks(s, c.Reason, c.A, c.B)
}

// breaksAlone reports whether a signed entry breaks a rule.
func breaksAlone(s api.Setup, doors []api.Door, reason int, a api.Entry) bool {
	if a.Kind != api.EnAsk {
		return false
	}
	n, dare := a.Nums[0], a.Nums[1]
	switch reason {
	case api.RsDare:
		return dare > s.Group.Q/2 || (dare-1)%24 != a.Gate
	case api.RsTask:
		if n >= len(doors) || doors[n].Limit.Gate != -1 && doors[n].Limit.Gate != a.Gate {
			return true
		}
		t, e := gate.Task(s, doors[n], a.Time, taskOf(a).Revoked, dare)
		return e != api.OK || taskText(t) != a.Text
	}
	return false
}

// breaks reports whether two signed entries of one gate break a rule.
func breaks(s api.Setup, reason int, a, b api.Entry) bool {
	if reason == api.RsFork {
		return a.No == b.No && entryText(a) < entryText(b)
	}
	refers := a.Kind == api.EnAsk && b.Kind == api.EnShow && b.Nums[0] == a.No
	switch {
	case a.No >= b.No:
		return false
	case reason == api.RsOrder:
		return a.Time > b.Time
	case reason == api.RsDare:
		return a.Kind == api.EnAsk && b.Kind == api.EnAsk && a.Nums[1] >= b.Nums[1]
	case reason == api.RsAnswer:
		return isAnswer(a) && isAnswer(b) && a.Nums[0] == b.Nums[0]
	case reason == api.RsBad:
		return refers && show.Check(s, taskOf(a), recordOf(b)) != api.OK
	case reason == api.RsTwice:
		return a.Kind == api.EnShow && b.Kind == api.EnShow && shareMark(recordOf(a), recordOf(b))
	case reason == api.RsStale:
		return a.Kind == api.EnLearn && b.Kind == api.EnAsk && slices.ContainsFunc(a.Nums, func(n int) bool { return !slices.Contains(taskOf(b).Revoked, n) })
	case reason == api.RsTerms:
		return refers && linksError(taskOf(a), recordOf(b), b.Time, nil) != api.OK
	case reason == api.RsRecall:
		return a.Kind == api.EnRecall && b.Kind == api.EnShow && slices.ContainsFunc(slices.Concat(recordOf(b).Links...), func(x api.Link) bool { return slices.Contains(a.Nums, x.Ticket.Mark) })
	}
	return false
}

// chargeText returns a text that determines a charge.
func chargeText(c api.Charge) string {
	return fmt.Sprint(c.Gate, " ", c.Reason, " ", entryText(c.A), " ", entryText(c.B), "\n")
}

// chargesOf returns all charges that hold, in order.
func chargesOf(s api.Setup, keys []int, doors []api.Door, l []api.Entry) []api.Charge {
	var all []api.Charge
	l = joinedOf(s, keys, l)
	for _, a := range l {
		for reason := range 10 {
			if breaksAlone(s, doors, reason, a) {
				all = append(all, api.Charge{Gate: a.Gate, Reason: reason, A: a})
			}
		}
		for _, b := range l {
			for reason := range 10 {
				if a.Gate == b.Gate && breaks(s, reason, a, b) {
					all = append(all, api.Charge{Gate: a.Gate, Reason: reason, A: a, B: b})
				}
			}
		}
	}
	return all
}

// exposuresOf returns the exposures of a list of entries.
func exposuresOf(s api.Setup, keys []int, l []api.Entry) []api.Exposure {
	var uses []spent
	for _, e := range joinedOf(s, keys, l) {
		if e.Kind == api.EnShow {
			uses = append(uses, spendsOf(recordOf(e))...)
		}
	}
	uses = slices.DeleteFunc(uses, func(x spent) bool { return !ticket.Accepts(s, x.ticket, x.spend) })
	var all []api.Exposure
	for i, a := range uses {
		if slices.ContainsFunc(uses[:i], func(x spent) bool { return x.ticket == a.ticket }) {
			continue
		}
		for _, b := range uses[i+1:] {
			if attrs, ok := ticket.Trace(s, a.ticket, a.spend, b.spend); ok && a.ticket == b.ticket && a.spend.Dare != b.spend.Dare {
				all = append(all, api.Exposure{Ticket: a.ticket, A: a.spend, B: b.spend, Attrs: attrs})
				break
			}
		}
	}
	return all
}

// signedWith returns an entry that is signed with a secret and a random number, whether it has form or not.
func signedWith(s api.Setup, secret, k int, e api.Entry) api.Entry {
	e.Sig, _ = proof.Sign(s, secret, k, bodyOf(e))
	return e
}
