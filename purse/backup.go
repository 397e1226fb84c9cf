package purse

import (
	"cmp"
	"slices"
	"strings"

	"cloak/api"
	"cloak/base"
)

// Backup returns a backup of the purse.
func (p *Purse) Backup() string {
	var b strings.Builder
	for _, x := range p.items {
		if x.Status == api.PuFree {
			b.WriteString(base.Text(Encode(x.Held)))
		}
	}
	return b.String()
}

// Restore opens a purse with the tickets of a backup that cannot have been used until a time.
func Restore(d *base.Disk, s api.Setup, limits []api.Limit, backup string, time int) (*Purse, api.Errno) {
	l, ok := readBackup(backup)
	if !ok {
		return nil, api.ErrForm
	}
	if !isTime(time) || slices.ContainsFunc(l, func(h api.Held) bool { return !Valid(s, limits, h) }) {
		return nil, api.ErrArg
	}
	p, e := Open(d, s, limits)
	if e != api.OK {
		return nil, e
	}
	if len(p.items) > 0 {
		return nil, api.ErrState
	}
	for _, h := range l {
		if start(limits[h.Limit], h.Window) <= time {
			continue
		}
		if e := p.Add(h); e != api.OK {
			return nil, e
		}
	}
	if e := p.journal.Sync(); e != api.OK {
		return nil, e
	}
	return p, api.OK
}

// readBackup returns the held tickets of a backup, and reports whether it is one.
func readBackup(backup string) ([]api.Held, bool) {
	var l []api.Held
	r := base.OpenReader(backup)
	for r.Left() > 0 {
		h, ok := Decode(r.Text())
		if !ok {
			return nil, false
		}
		l = append(l, h)
	}
	return l, true
}

// Remainder returns how many tickets of each limit and window have not been seen.
func Remainder(held []api.Held, seen []api.Ticket) []api.Left {
	known := map[api.Ticket]bool{}
	for _, t := range seen {
		known[t] = true
	}
	counts := map[api.Left]int{} // by Limit and Window
	for _, h := range held {
		if !known[h.Ticket] {
			counts[api.Left{Limit: h.Limit, Window: h.Window}]++
			known[h.Ticket] = true
		}
	}
	var l []api.Left
	for x, n := range counts {
		x.Count = n
		l = append(l, x)
	}
	slices.SortFunc(l, func(a, b api.Left) int {
		return cmp.Or(cmp.Compare(a.Limit, b.Limit), cmp.Compare(a.Window, b.Window))
	})
	return l
}
