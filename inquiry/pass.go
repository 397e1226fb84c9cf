package inquiry

import (
	"slices"

	"cloak/api"
	"cloak/ask"
	"cloak/base"
)

// nameOf returns the name that questions have for an attribute of a pass.
func nameOf(p api.Pass, attr string) string { return p.Name + "." + attr }

// isPass reports whether each attribute of a pass has a name of its own, and there are not too many.
func isPass(p api.Pass) bool {
	if !base.Name(p.Name) || len(p.Attrs) > api.MaxAttrs-1 {
		return false
	}
	for i, a := range p.Attrs {
		if !ask.ValidName(nameOf(p, a)) || slices.Contains(p.Attrs[:i], a) {
			return false
		}
	}
	return true
}

// isKind reports whether two passes have the same Name, Pub and Attrs.
func isKind(a, b api.Pass) bool {
	return a.Name == b.Name && a.Pub == b.Pub && slices.Equal(a.Attrs, b.Attrs)
}

// areKeys reports whether a list is a list of keys.
func areKeys(l []api.Pass) bool {
	if len(l) < 1 || len(l) > api.MaxWindows {
		return false
	}
	for i, p := range l {
		clash := func(x api.Pass) bool {
			return x.Name == p.Name && (x.Pub == p.Pub || !slices.Equal(x.Attrs, p.Attrs))
		}
		if !isPass(p) || slices.ContainsFunc(l[:i], clash) {
			return false
		}
	}
	return true
}

// Values returns the values of the names of a pass.
func Values(p api.Pass, attrs []int) ([]api.Bind, api.Errno) {
	if !isPass(p) || len(attrs) <= len(p.Attrs) {
		return nil, api.ErrArg
	}
	var l []api.Bind
	for i, a := range p.Attrs {
		value := attrs[i+1] // the first one is the number of the holder
		if value < 0 || value > api.MaxValue {
			return nil, api.ErrRange
		}
		l = append(l, api.Bind{Name: nameOf(p, a), Value: value})
	}
	return l, api.OK
}

// Predicate returns the predicate of a task.
func Predicate(t api.Task) (api.Pred, api.Errno) {
	_, p, _, e := ask.Parse(t.Question)
	if e != api.OK {
		return api.Pred{}, e
	}
	if t.Most < 0 || t.Most > api.MaxValue {
		return api.Pred{}, api.ErrRange
	}
	names := ask.Names(p)
	if len(names) == 0 {
		return p, api.OK
	}
	all := api.Pred{Kind: api.PrAll, Kids: []api.Pred{p}}
	for _, name := range names {
		all.Kids = append(all.Kids, api.Pred{Left: name, C: t.Most})
	}
	if !ask.ValidPred(all) {
		return api.Pred{}, api.ErrFull
	}
	return all, api.OK
}
