package ask

import (
	"slices"

	"cloak/api"
)

// Discloses reports whether a predicate discloses more than labels.
func Discloses(p api.Pred, labels []api.Pred, most int) (a, b []api.Bind, more bool, e api.Errno) {
	if len(labels) > api.MaxQuestions {
		return nil, nil, false, api.ErrArg
	}
	s, e := openAll(most, slices.Concat([]api.Pred{p}, labels)...)
	if e != api.OK {
		return nil, nil, false, e
	}
	cells := s.cells()
	truths := s.columns.tableOf(p)
	known := s.truthsOf(labels, cells)
	for i, x := range cells {
		for k, y := range cells {
			if known[i] == known[k] && truths[x.index] != truths[y.index] {
				return bind(s.names, x.values), bind(s.names, y.values), true, api.OK
			}
		}
	}
	return nil, nil, false, api.OK
}

// truthsOf returns for each cell the truth values of labels.
func (s space) truthsOf(labels []api.Pred, cells []cell) [][api.MaxQuestions]bool {
	known := make([][api.MaxQuestions]bool, len(cells))
	for n, label := range labels {
		t := s.columns.tableOf(label)
		for i, c := range cells {
			known[i][n] = t[c.index]
		}
	}
	return known
}
