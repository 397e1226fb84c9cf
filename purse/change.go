package purse

import (
	"strings"

	"cloak/api"
	"cloak/base"
)

// Kinds of changes, as records begin with them.
const (
	kindAdd = iota
	kindReserve
	kindDone
	kindLend
	kindBack
)

// change is what a record of the journal says.
type change struct {
	kind  int
	held  api.Held // that is added
	index int      // of the item that is changed
	dare  int      // for which it is reserved or lent
}

// numbersOf returns how many numbers the records of a kind have. Those that add a ticket are no list of numbers.
func numbersOf(kind int) int {
	switch kind {
	case kindReserve, kindLend:
		return 3
	case kindDone, kindBack:
		return 2
	}
	return 0
}

// record returns the record of a change.
func (c change) record() string {
	if c.kind == kindAdd {
		return base.Num(kindAdd) + Encode(c.held)
	}
	numbers := []int{c.kind, c.index, c.dare}
	return base.Nums(numbers[:numbersOf(c.kind)])
}

// readChange returns the change that a record says, and reports whether it says one.
func readChange(record string) (change, bool) {
	if text, ok := strings.CutPrefix(record, base.Num(kindAdd)); ok {
		h, ok := Decode(text)
		return change{kind: kindAdd, held: h}, ok
	}
	r := base.OpenReader(record)
	l := r.Nums()
	if !r.Done() || len(l) == 0 || len(l) != numbersOf(l[0]) {
		return change{}, false
	}
	c := change{kind: l[0], index: l[1]}
	if len(l) > 2 {
		c.dare = l[2]
	}
	return c, true
}
