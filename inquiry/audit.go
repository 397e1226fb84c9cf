package inquiry

import (
	"cmp"
	"slices"

	"cloak/api"
	"cloak/ask"
	"cloak/gate"
	"cloak/show"
)

// Audit returns the findings of books.
func Audit(s api.Setup, b api.Books) ([]api.Finding, api.Errno) {
	if !validBooks(s, b) {
		return nil, api.ErrArg
	}
	l := slices.Concat(charges(s, b), exposures(s, b), disclosures(b), excesses(b), unsupported(s, b))
	slices.SortFunc(l, func(x, y api.Finding) int {
		return cmp.Or(cmp.Compare(x.Kind, y.Kind), cmp.Compare(x.A, y.A), cmp.Compare(x.B, y.B))
	})
	return slices.Compact(l), api.OK
}

// charges returns what convicts gates.
func charges(s api.Setup, b api.Books) []api.Finding {
	return each(gate.Charges(s, b.Gates, b.Doors, b.Entries), func(c api.Charge) api.Finding {
		return api.Finding{Kind: api.FiCharge, A: c.Gate, B: c.Reason}
	})
}

// exposures returns the holders of tickets that were spent with two challenges.
func exposures(s api.Setup, b api.Books) []api.Finding {
	return each(gate.Exposed(s, b.Gates, b.Entries), func(x api.Exposure) api.Finding {
		return api.Finding{Kind: api.FiExposed, A: x.Attrs[0]}
	})
}

// disclosures returns the doors whose questions disclose more than the labels, or for which this cannot be decided.
func disclosures(b api.Books) []api.Finding {
	predicate := func(text string) api.Pred {
		_, p, _, _ := ask.Parse(text)
		return p
	}
	labels := each(b.Labels, predicate)
	var l []api.Finding
	for i, d := range b.Doors {
		_, _, more, e := ask.Discloses(predicate(d.Task.Question), labels, d.Task.Most)
		if more || e != api.OK {
			l = append(l, api.Finding{Kind: api.FiLabel, A: i, B: int(e)})
		}
	}
	return l
}

// share is what a holder may get of a limit in a window.
type share struct{ holder, limit, window int }

// excesses returns the holders who got more than that.
func excesses(b api.Books) []api.Finding {
	granted := map[share]int{}
	for i, g := range b.Grants {
		granted[share{b.Holders[i], g.Limit, g.Window}] += g.Count
	}
	var l []api.Finding
	for x, n := range granted {
		if n > b.Limits[x.limit].Count {
			l = append(l, api.Finding{Kind: api.FiLimit, A: x.holder, B: x.limit})
		}
	}
	return l
}

// unsupported returns the openings that the entries and the votes do not support.
func unsupported(s api.Setup, b api.Books) []api.Finding {
	a := archiveOf(s, b)
	var l []api.Finding
	for i, o := range b.Openings {
		if !a.supports(o) {
			l = append(l, api.Finding{Kind: api.FiOpening, A: i})
		}
	}
	return l
}

// place is a number in the log of a gate.
type place struct{ gate, no int }

// archive has the entries that stand at each place, and the votes about it. There are several entries if the gate has signed several.
type archive struct {
	setup   api.Setup
	books   api.Books
	entries map[place][]api.Entry
	votes   map[place][]api.Vote
}

// archiveOf returns the archive of valid books.
func archiveOf(s api.Setup, b api.Books) archive {
	a := archive{s, b, map[place][]api.Entry{}, map[place][]api.Vote{}}
	for _, e := range gate.Join(s, b.Gates, b.Entries, nil) {
		at := place{e.Gate, e.No}
		a.entries[at] = append(a.entries[at], e)
	}
	for _, v := range b.Votes {
		at := place{v.Gate, v.No}
		a.votes[at] = append(a.votes[at], v)
	}
	return a
}

// of returns the entries of a kind at a place.
func (a archive) of(kind int, at place) []api.Entry {
	return filter(a.entries[at], func(e api.Entry) bool { return e.Kind == kind })
}

// supports reports whether an opening is supported.
func (a archive) supports(o api.Opening) bool {
	if !isIndex(o.Version, len(a.books.Jurors)) {
		return false
	}
	at := place{o.Gate, o.No}
	// With the votes of others there would be other jurors, even if they voted later.
	votes := filter(a.votes[at], func(v api.Vote) bool { return slices.Contains(o.Jurors, v.Juror) })
	for _, shown := range a.of(api.EnShow, at) {
		r, _ := show.Decode(shown.Text)
		for _, asked := range a.of(api.EnAsk, place{o.Gate, shown.Nums[0]}) {
			t, _ := gate.DecodeTask(asked.Text)
			if Confirms(a.setup, a.books.Jurors[o.Version], a.books.Statutes, t, r, votes, o) {
				return true
			}
		}
	}
	return false
}
