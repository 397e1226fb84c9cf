package show

import (
	"math/bits"
	"slices"
	"strings"

	"cloak/api"
	"cloak/ask"
	"cloak/base"
	"cloak/proof"
)

// Width returns the number of bits of a difference of attributes up to a greatest value.
func Width(most int) int {
	if most < 1 || most > api.MaxValue {
		return 0
	}
	return bits.Len(uint(2 * most))
}

// Ready returns the error of a task.
func Ready(s api.Setup, t api.Task) api.Errno {
	_, e := prepare(s, t)
	return e
}

// plan is what a valid task asks for.
type plan struct {
	group
	task    api.Task
	pred    api.Pred
	names   []string // of the predicate
	places  []place  // where the attributes stand that the names mean
	choices []api.Choice
	atoms   []api.Pred
}

// place is the index of a pass, and that of one of its attributes.
type place struct{ pass, attr int }

// prepare returns the plan of a task, or the error of the task.
func prepare(s api.Setup, t api.Task) (plan, api.Errno) {
	p := plan{group: group{s}, task: t}
	if !proof.ValidSetup(s) || !p.taskForm(t) {
		return plan{}, api.ErrArg
	}
	_, pred, _, e := ask.Parse(t.Question)
	if e != api.OK {
		return plan{}, e
	}
	var ok bool
	p.pred, p.names = pred, ask.Names(pred)
	if p.places, ok = meanings(t.Passes, p.names); !ok {
		return plan{}, api.ErrName
	}
	if p.choices, e = ask.Normal(pred); e != api.OK {
		return plan{}, e
	}
	if slices.ContainsFunc(p.choices, func(c api.Choice) bool { return len(c.Atoms) < c.Need }) {
		return plan{}, api.ErrUnsat
	}
	p.atoms = atomsOf(p.choices)
	if slices.ContainsFunc(p.atoms, func(a api.Pred) bool { return a.C < -t.Most-1 || a.C > t.Most }) {
		return plan{}, api.ErrRange
	}
	return p, api.OK
}

// taskForm reports whether a task has form.
func (g group) taskForm(t api.Task) bool {
	q := g.Group.Q
	if t.Version < 0 || len(t.Question) > api.MaxSource || t.Most < 1 || t.Most > api.MaxValue || 8*t.Most >= q {
		return false
	}
	if len(t.Revoked) > api.MaxRevoked || !g.factors(t.Revoked...) || !g.factors(t.Dare) {
		return false
	}
	if t.Quorum < 1 || t.Quorum > t.Jurors || t.Jurors > api.MaxJurors || t.Jurors >= q {
		return false
	}
	if len(t.Passes) < 1 || len(t.Passes) > api.MaxPasses {
		return false
	}
	return areNames(each(t.Passes, func(p api.Pass) string { return p.Name })) && !slices.ContainsFunc(t.Passes, func(p api.Pass) bool { return !g.passForm(p) })
}

// passForm reports whether a pass, apart from its Name, is as it is in a task that has form.
func (g group) passForm(p api.Pass) bool {
	if len(p.Attrs) > len(g.Bases)-2 || len(p.Guests) > api.MaxGuests {
		return false
	}
	keys := keysOf(p)
	return areNames(p.Attrs) && g.proper(keys...) && different(keys)
}

// keysOf returns the keys of those who may have issued the tickets of a chain for a pass.
func keysOf(p api.Pass) []int { return slices.Concat([]int{p.Pub}, p.Guests) }

// areNames reports whether a list consists of valid names that are pairwise different.
func areNames(l []string) bool {
	return different(l) && !slices.ContainsFunc(l, func(s string) bool { return !base.Name(s) })
}

// meanings returns where the attributes stand that names mean, and reports whether each of them means one.
func meanings(passes []api.Pass, names []string) ([]place, bool) {
	l := make([]place, len(names))
	for i, name := range names {
		at, ok := meaning(passes, name)
		if !ok {
			return nil, false
		}
		l[i] = at
	}
	return l, true
}

// meaning returns where the first attribute stands that a name means, and reports whether there is one. The passes need not be those of a valid task.
func meaning(passes []api.Pass, name string) (place, bool) {
	first, second, _ := strings.Cut(name, ".")
	for i, p := range passes {
		if k := slices.Index(p.Attrs, second); k >= 0 && p.Name == first {
			return place{i, k + 1}, true
		}
	}
	return place{}, false
}

// atomsOf returns the different atoms of choices in the order of their first occurrence.
func atomsOf(choices []api.Choice) []api.Pred {
	var l []api.Pred
	for _, c := range choices {
		for _, a := range c.Atoms {
			if indexOf(l, a) < 0 {
				l = append(l, a)
			}
		}
	}
	return l
}

// indexOf returns the index of an atom in a list of atoms, or a negative number.
func indexOf(l []api.Pred, a api.Pred) int {
	return slices.IndexFunc(l, func(b api.Pred) bool { return a.Left == b.Left && a.Right == b.Right && a.C == b.C })
}

// of returns what l has for a name of the predicate, or other for the empty name. It may have more elements than there are names.
func (p plan) of(name string, l []int, other int) int {
	if i := slices.Index(p.names, name); i >= 0 {
		return l[i]
	}
	return other
}
