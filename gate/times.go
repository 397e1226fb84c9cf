package gate

import (
	"math"
	"slices"

	"cloak/api"
	"cloak/proof"
)

const (
	full = 1000        // all of a time, in per mille
	far  = math.MaxInt // greater than all weights of walks
)

// edge is an edge to a node.
type edge struct{ to, weight int }

// graph is a constraint graph: for each node, of which the last one is the origin, the edges from there.
type graph [][]edge

// graphOf returns the constraint graph of a list of entries, and reports whether there is one.
func graphOf(s api.Setup, keys []int, l []api.Entry, drift int) (graph, bool) {
	if !proof.ValidSetup(s) || drift < 0 || drift > full {
		return nil, false
	}
	list := joined(s, keys, l)
	g := make(graph, len(list)+1)
	for i, e := range list {
		low, high := 0, api.MaxTime
		if e.Kind == api.EnSync {
			low, high = e.Nums[0], e.Nums[1]
		}
		g.bound(len(list), i, high)
		g.bound(i, len(list), -low)
		if i > 0 {
			g.boundByClock(i, list[i-1], e, drift)
		}
	}
	g.boundByHearing(list)
	return g, true
}

// bound adds that the true time of b less that of a is at most a weight.
func (g graph) bound(a, b, weight int) { g[a] = append(g[a], edge{b, weight}) }

// boundByClock adds what the clock of a gate says of the entry b with the index i, and a before it, if both are of one gate.
func (g graph) boundByClock(i int, a, b api.Entry, drift int) {
	d := b.Time - a.Time
	if a.Gate != b.Gate || a.No == b.No || d < 0 {
		return
	}
	g.bound(i-1, i, (d*(full+drift)+full-1)/full)
	g.bound(i, i-1, -(d * (full - drift) / full))
}

// place is where an entry stands: its gate, and its number.
type place struct{ gate, no int }

// boundByHearing adds that what was heard is not later than the entry that says so.
func (g graph) boundByHearing(list []api.Entry) {
	at := map[place][]int{}
	for i, e := range list {
		k := place{e.Gate, e.No}
		at[k] = append(at[k], i)
	}
	for i, e := range list {
		if e.Kind == api.EnHear {
			for _, heard := range at[place{e.Nums[0], e.Nums[1]}] {
				g.bound(i, heard, 0)
			}
		}
	}
}

// reversed returns the graph with all edges turned.
func (g graph) reversed() graph {
	r := make(graph, len(g))
	for a, l := range g {
		for _, x := range l {
			r.bound(x.to, a, x.weight)
		}
	}
	return r
}

// nearest returns for each node the least weight of a walk from the origin, and reports whether there are such weights: there are none if the graph has a cycle with a negative weight.
func (g graph) nearest() ([]int, bool) {
	least := slices.Repeat([]int{far}, len(g))
	least[g.origin()] = 0
	if !g.settle(least) {
		return nil, false
	}
	return least, true
}

// origin returns the index of the origin.
func (g graph) origin() int { return len(g) - 1 }

// settle extends walks, of which least has the weights, until none of the weights becomes less, and reports whether this ever ends.
// Without a cycle with a negative weight it needs no more rounds than there are nodes. Most of these cycles are found much earlier, as a walk from the origin returns there.
func (g graph) settle(least []int) bool {
	for range g {
		if !g.sweep(least) {
			return true
		}
		if least[g.origin()] < 0 {
			return false
		}
	}
	return false
}

// sweep extends all walks, of which least has the weights, and reports whether one of the weights has become less.
// Most edges lead from an entry to the one after it, or before it: in both directions, whole chains of them are passed at once.
func (g graph) sweep(least []int) bool {
	changed := false
	extend := func(a int) {
		for _, x := range g[a] {
			if least[a] != far && least[a]+x.weight < least[x.to] {
				least[x.to] = least[a] + x.weight
				changed = true
			}
		}
	}
	for a := range g {
		extend(len(g) - 1 - a)
	}
	for a := range g {
		extend(a)
	}
	return changed
}

// Bounds returns the least and the greatest true times.
func Bounds(s api.Setup, keys []int, l []api.Entry, drift int) ([]api.Bound, api.Errno) {
	g, ok := graphOf(s, keys, l, drift)
	if !ok {
		return nil, api.ErrArg
	}
	after, ok := g.nearest()
	if !ok {
		return nil, api.ErrUnsat
	}
	// The graph has no cycle with a negative weight, so its reverse has none.
	before, _ := g.reversed().nearest()
	bounds := make([]api.Bound, len(g)-1)
	for i := range bounds {
		bounds[i] = api.Bound{Low: -before[i], High: after[i]}
	}
	return bounds, api.OK
}
