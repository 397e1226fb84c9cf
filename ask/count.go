package ask

import (
	"slices"

	"cloak/api"
)

// The limits of what is counted: the number of names, and the greatest value if there are that many.
const (
	maxCountNames = 3
	maxCountMost  = 255
)

// Count returns the number of assignments for which a predicate is true.
func Count(p api.Pred, names []string, most int) (int, api.Errno) {
	s, e := open(names, most, p)
	if e != api.OK {
		return 0, e
	}
	if len(names) > maxCountNames || len(names) == maxCountNames && most > maxCountMost {
		return 0, api.ErrFull
	}
	c := counter{places: len(names) + 1, most: most, truths: s.columns.tableOf(p)}
	for _, a := range s.comparisons {
		c.steps = append(c.steps, stepOf(a, names))
	}
	return c.count([]int{0}), api.OK
}

// counter counts the assignments for which a table is true: the values at as many places, of which the first one is that of the empty name.
type counter struct {
	places, most int
	steps        []step // the comparisons
	truths       table
}

// count returns the number of assignments that begin with values. It tries all values of the names but the last one.
func (c *counter) count(values []int) int {
	switch c.places - len(values) {
	case 0:
		if c.truths[c.index(values)] {
			return 1
		}
		return 0
	case 1:
		return c.countLast(values)
	}
	total := 0
	for v := range c.most + 1 {
		total += c.count(append(values, v))
	}
	return total
}

// countLast returns the number of assignments that begin with the values of all names but the last one.
func (c *counter) countLast(values []int) int {
	total, end := 0, c.most+1
	for _, v := range slices.Backward(c.changes(values)) {
		total += (end - v) * c.count(append(values, v))
		end = v
	}
	return total
}

// changes returns, in ascending order, 0 and the values of the last name from which on a comparison has another truth than before.
func (c *counter) changes(values []int) []int {
	list := []int{0}
	for _, s := range c.steps {
		v := 0
		switch len(values) {
		case s.left:
			v = values[s.right] + s.c + 1
		case s.right:
			v = values[s.left] - s.c
		}
		if v > 0 && v <= c.most {
			list = append(list, v)
		}
	}
	slices.Sort(list)
	return slices.Compact(list)
}

// index returns the truth values of the comparisons as the index in tables.
func (c *counter) index(values []int) int {
	index := 0
	for i, s := range c.steps {
		if values[s.left]-values[s.right] <= s.c {
			index |= 1 << i
		}
	}
	return index
}
