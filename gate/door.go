package gate

import (
	"slices"
	"strings"

	"cloak/api"
	"cloak/base"
	"cloak/field"
	"cloak/proof"
	"cloak/purse"
	"cloak/show"
)

// Challenge returns the challenge of a gate with a serial.
func Challenge(s api.Setup, gate, serial int) int {
	if !proof.ValidSetup(s) || !isGate(gate) || serial < 0 {
		return 0
	}
	return challenge(s, gate, serial)
}

// challenge returns the challenge of a gate with a serial, or 0 if there is none. Greater challenges are for lending.
func challenge(s api.Setup, gate, serial int) int {
	rest := s.Group.Q/2 - gate - 1
	if rest < 0 || serial > rest/api.MaxGates {
		return 0
	}
	return serial*api.MaxGates + gate + 1
}

// Key returns the key for a window.
func Key(s api.Setup, pub, window int) int {
	if !proof.ValidSetup(s) || !isTime(window) {
		return 0
	}
	return keyFor(s, pub, window)
}

// keyFor returns the key for a window, or 0 if there is none.
func keyFor(s api.Setup, pub, window int) int {
	key := field.Power(s.Group, pub, window+1)
	if !isProper(s, pub) || key == 1 {
		return 0
	}
	return key
}

// ValidDoor reports whether a door is valid.
func ValidDoor(s api.Setup, d api.Door) bool {
	t := d.Task
	t.Revoked, t.Dare = nil, 1
	return purse.ValidLimit(d.Limit) && show.Ready(s, t) == api.OK
}

// belongs reports whether a door belongs to a gate.
func belongs(d api.Door, gate int) bool { return d.Limit.Gate == api.None || d.Limit.Gate == gate }

// Task returns the task of a door.
func Task(s api.Setup, d api.Door, now int, revoked []int, dare int) (api.Task, api.Errno) {
	if !isTime(now) || !ValidDoor(s, d) {
		return api.Task{}, api.ErrArg
	}
	window := purse.Window(d.Limit, now)
	key := func(pub int) int { return keyFor(s, pub, window) }
	t := copyTask(d.Task)
	t.Revoked, t.Dare = slices.Clone(revoked), dare
	// Where there is no key for the window, the task has no form, which is the same error.
	for i, p := range t.Passes {
		t.Passes[i].Pub, t.Passes[i].Guests = key(p.Pub), each(p.Guests, key)
	}
	if e := show.Ready(s, t); e != api.OK {
		return api.Task{}, e
	}
	return t, api.OK
}

// copyDoor returns a door that shares no memory with d.
func copyDoor(d api.Door) api.Door {
	d.Task = copyTask(d.Task)
	return d
}

// copyTask returns a task that shares no memory with t.
func copyTask(t api.Task) api.Task {
	t.Revoked = slices.Clone(t.Revoked)
	t.Passes = each(t.Passes, func(p api.Pass) api.Pass {
		p.Attrs, p.Guests = slices.Clone(p.Attrs), slices.Clone(p.Guests)
		return p
	})
	return t
}

// EncodeTask returns the encoding of a task.
func EncodeTask(t api.Task) string {
	text := []string{
		base.Nums([]int{t.Version, t.Most, t.Dare, t.Quorum, t.Jurors}),
		base.Text(t.Question),
		base.Nums(t.Revoked),
		base.Num(len(t.Passes)),
	}
	for _, p := range t.Passes {
		text = append(text, base.Text(p.Name), base.Int(p.Pub), base.Texts(p.Attrs), base.Nums(p.Guests))
	}
	return strings.Join(text, "")
}

// DecodeTask returns the task with an encoding.
func DecodeTask(text string) (api.Task, bool) {
	r := base.OpenReader(text)
	l := readNumbers(r, 5)
	t := api.Task{Version: l[0], Most: l[1], Dare: l[2], Quorum: l[3], Jurors: l[4], Question: r.Text(), Revoked: r.Nums()}
	// The number of passes is not trusted: there are no more than the text has.
	for n := r.Num(); n > 0 && r.Left() > 0; n-- {
		t.Passes = append(t.Passes, api.Pass{Name: r.Text(), Pub: r.Int(), Attrs: r.Texts(), Guests: r.Nums()})
	}
	// Whatever was read from another string has another encoding.
	if EncodeTask(t) != text {
		return api.Task{}, false
	}
	return t, true
}

// readNumbers reads a list, of which it returns n numbers. Where there are fewer, they are followed by zeros.
func readNumbers(r *base.Reader, n int) []int {
	l := make([]int, n)
	copy(l, r.Nums())
	return l
}
