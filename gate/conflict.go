package gate

import (
	"slices"

	"cloak/api"
)

// Conflict returns a smallest cycle with a negative weight.
func Conflict(s api.Setup, keys []int, l []api.Entry, drift int) []int {
	g, ok := graphOf(s, keys, l, drift)
	if !ok {
		return nil
	}
	if _, ok := g.nearest(); ok {
		return nil
	}
	return g.smallest(g.shortest())
}

// What follows looks for closed walks with a negative weight and as few edges as possible. All nodes of such a walk are different: otherwise a part of it would be one with fewer edges. So it is a cycle.

// end is where a walk ends, and its weight.
type end struct{ node, weight int }

// walks are walks from a node, which become longer.
type walks struct {
	graph
	least []int // by node: the weight of the lightest walk to it up to now
	level []end // the ends of the walks with the greatest number of edges that are lighter than those with fewer edges: no others are part of a shortest closed walk
}

// walksFrom returns the walk from a node that has no edges yet.
func (g graph) walksFrom(node int) *walks {
	least := slices.Repeat([]int{far}, len(g))
	least[node] = 0
	return &walks{g, least, []end{{node, 0}}}
}

// extend adds one more edge to the walks, of which those that are not kept are forgotten.
func (w *walks) extend(keep func(end) bool) {
	var nodes []int
	for _, a := range w.level {
		for _, x := range w.graph[a.node] {
			if b := (end{x.to, a.weight + x.weight}); b.weight < w.least[b.node] && keep(b) {
				w.least[b.node] = b.weight
				nodes = append(nodes, b.node)
			}
		}
	}
	slices.Sort(nodes)
	w.level = each(slices.Compact(nodes), func(n int) end { return end{n, w.least[n]} })
}

// always keeps all walks.
func always(end) bool { return true }

// returns returns with how many edges a walk from a node first returns with a negative weight, or the greatest number of edges if none with fewer edges does.
func (g graph) returns(from, edges int) int {
	w := g.walksFrom(from)
	for k := range edges {
		if w.least[from] < 0 {
			return k
		}
		w.extend(always)
	}
	return edges
}

// hopeful returns a function that keeps the walks from a node that can return with a negative weight by at most some edges more.
func (g graph) hopeful(from, edges int) func(end) bool {
	w := g.reversed().walksFrom(from)
	for range edges {
		w.extend(always)
	}
	return func(a end) bool { return w.least[a.node] != far && a.weight+w.least[a.node] < 0 }
}

// levels returns the levels of the walks from a node with 0, 1, 2 edges and so on that are kept, up to the first one at which one of them returns with a negative weight. There are none if none returns with at most so many edges as stated.
func (g graph) levels(from, edges int, keep func(end) bool) [][]end {
	w := g.walksFrom(from)
	list := [][]end{w.level}
	for k := 0; k < edges && len(w.level) > 0; k++ {
		w.extend(keep)
		list = append(list, w.level)
		if w.least[from] < 0 {
			return list
		}
	}
	return nil
}

// rests returns, for each of the levels, the nodes at which closed walks with a negative weight are after so many edges, each with the weight of the lightest rest of such a walk.
func (g graph) rests(levels [][]end) []map[int]int {
	last := len(levels) - 1
	rests := make([]map[int]int, len(levels))
	rests[last] = map[int]int{levels[0][0].node: 0}
	for k := last - 1; k >= 0; k-- {
		rests[k] = map[int]int{}
		for _, a := range levels[k] {
			if rest := g.rest(a.node, rests[k+1]); rest != far && a.weight+rest < 0 {
				rests[k][a.node] = rest
			}
		}
	}
	return rests
}

// rest returns the weight of the lightest rest of a walk from a node, where next has those of the nodes that follow, or far if there is none.
func (g graph) rest(node int, next map[int]int) int {
	least := far
	for _, x := range g[node] {
		if rest, ok := next[x.to]; ok {
			least = min(least, x.weight+rest)
		}
	}
	return least
}

// shortest returns the number of edges of the shortest cycles with a negative weight, and the smallest node of all of them.
func (g graph) shortest() (edges, first int) {
	edges, first = len(g), len(g)
	look := func(part graph, from int, keep func(end) bool) {
		levels := part.levels(from, edges, keep)
		if levels == nil {
			return
		}
		if n := len(levels) - 1; n < edges {
			edges, first = n, len(g)
		}
		for _, rest := range part.rests(levels) {
			for node := range rest {
				first = min(first, node)
			}
		}
	}
	if inner := g.inner(); !inner.settle(make([]int, len(g))) {
		// Each cycle with a negative weight has a node from which on all of its beginnings have negative weights.
		for n := range inner {
			look(inner, n, func(a end) bool { return a.weight < 0 })
		}
	}
	look(g, g.origin(), g.hopeful(g.origin(), g.returns(g.origin(), edges)))
	return edges, first
}

// inner returns the graph without the edges from and to the origin. It has few cycles, if any: only gates that have heard of each other lead to one.
func (g graph) inner() graph {
	inner := each(g, func(l []edge) []edge {
		return filter(l, func(x edge) bool { return x.to != g.origin() })
	})
	inner[g.origin()] = nil
	return inner
}

// smallest returns the smallest of the cycles with a negative weight that have a number of edges and begin with a node.
func (g graph) smallest(edges, first int) []int {
	rests := g.rests(g.levels(first, edges, g.hopeful(first, edges)))
	cycle, weight := []int{first}, 0
	for _, rest := range rests[1:edges] {
		next := edge{to: len(g)}
		for _, x := range g[cycle[len(cycle)-1]] {
			if r, ok := rest[x.to]; ok && weight+x.weight+r < 0 && x.to < next.to {
				next = x
			}
		}
		cycle = append(cycle, next.to)
		weight += next.weight
	}
	return cycle
}

// Impossible reports whether a list of nodes is a cycle with a negative weight.
func Impossible(s api.Setup, keys []int, l []api.Entry, drift int, cycle []int) bool {
	g, ok := graphOf(s, keys, l, drift)
	if !ok || !different(cycle) {
		return false
	}
	sum := 0
	for i, a := range cycle {
		weight, ok := g.weight(a, cycle[(i+1)%len(cycle)])
		if !ok {
			return false
		}
		sum += weight
	}
	return sum < 0
}

// weight returns the weight of the edge from a to b, and reports whether there is one.
func (g graph) weight(a, b int) (int, bool) {
	if a < 0 || a >= len(g) {
		return 0, false
	}
	i := slices.IndexFunc(g[a], func(x edge) bool { return x.to == b })
	if i < 0 {
		return 0, false
	}
	return g[a][i].weight, true
}
