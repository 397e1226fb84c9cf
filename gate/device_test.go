package gate_test

import (
	"slices"
	"testing"

	"cloak/api"
	"cloak/base"
	"cloak/gate"
	"cloak/purse"
	"cloak/ticket"
)

// T1, T3, T5: devices that crash at any moment and begin again, with gates of which none knows what the others have seen: no ticket is exposed, and each showing that comes through is admitted. Once a device has been copied, and both copies were used for different challenges, exactly its holder is exposed.
func TestDevices(t *testing.T) {
	r, s := random(), large()
	limits := []api.Limit{door(s).Limit}
	keys := keysOf(s, 3)
	var gates []*gate.Gate
	for number := range 3 {
		gates = append(gates, open(t, base.NewDisk(), s, number, doors(s)...))
	}
	var disks []*base.Disk
	start := func(d *base.Disk) *purse.Purse {
		t.Helper()
		for {
			d.Start()
			p, e := purse.Open(d, s, limits)
			if e == api.OK {
				return p
			}
			if e != api.ErrDown && e != api.ErrLost {
				t.Fatal(e)
			}
		}
	}
	for i := range 4 {
		d := base.NewDisk()
		p := start(d)
		for range 25 {
			h := adult(r, s, secretP, 1, 20+i)
			h.Limit = 0
			if e := p.Add(h); e != api.OK {
				t.Fatal(e)
			}
		}
		d.Sync(0)
		disks = append(disks, d)
	}
	// use shows a ticket of a device at a gate, as far as the device gets, and reports whether it was admitted.
	use := func(d *base.Disk, g *gate.Gate) bool {
		t.Helper()
		p := start(d)
		no, x := asked(t, g, 70, 0)
		if r.IntN(3) == 0 {
			d.Arm(1+r.IntN(4), []int{r.IntN(2), r.IntN(2)})
		}
		i, e := p.Reserve(0, 70, x.Dare)
		if e != api.OK {
			return false
		}
		record := shown(t, s, x, p.Items()[i].Held)
		if spend, e := p.Answer(i); e != api.OK || spend.Dare != record.Spends[0].Dare || !slices.Equal(spend.Answers, record.Spends[0].Answers) {
			t.Error(spend, e)
		}
		if _, e := g.Admit(70, no, record); e != api.OK {
			t.Error(e)
		}
		p.Done(i)
		if r.IntN(3) == 0 {
			d.Crash([]int{r.IntN(2)})
		}
		return true
	}
	admitted := 0
	for range 60 {
		if use(disks[r.IntN(4)], gates[r.IntN(3)]) {
			admitted++
		}
	}
	logs := func() []api.Entry {
		return gate.Join(s, keys, gates[2].Log(), slices.Concat(gates[0].Log(), gates[1].Log()))
	}
	if l := gate.Exposed(s, keys, logs()); len(l) > 0 || admitted < 20 {
		t.Error(l, admitted)
	}
	for _, d := range disks {
		d.Arm(0, nil)
	}
	copies := []*base.Disk{disks[1], disks[1].Copy()}
	for i, d := range copies {
		for !use(d, gates[i]) {
			d.Arm(0, nil)
		}
	}
	l := gate.Exposed(s, keys, logs())
	if len(l) == 0 {
		t.Error("no exposure")
	}
	for _, x := range l {
		if x.Attrs[0] != 21 || !ticket.Guilty(s, x.Ticket, x.A, x.B, x.Attrs) {
			t.Error(x)
		}
	}
	if c := gate.Charges(s, keys, doors(s), logs()); len(c) > 0 {
		t.Error("charged", c[0].Reason)
	}
}
