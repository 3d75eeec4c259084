package tests

import (
	"math/rand"
	"slices"
	"testing"

	"loop.example/graphreducer/impl"
)

// orderBy returns the cells in the order in which they are copied, by looking
// for each one among those before.
func orderBy(g []impl.Cell, roots []int) []int {
	var order []int
	add := func(list []int) {
		for _, at := range list {
			if !slices.Contains(order, at) {
				order = append(order, at)
			}
		}
	}
	add(roots)
	for i := 0; i < len(order); i++ {
		add(g[order[i]].Kids)
	}
	return order
}

// copyBy returns the copies of cells, in order, and the places of those of roots.
func copyBy(g []impl.Cell, roots []int) ([]impl.Cell, []int) {
	order := orderBy(g, roots)
	places := func(list []int) []int {
		var found []int
		for _, at := range list {
			found = append(found, slices.Index(order, at))
		}
		return found
	}
	var h []impl.Cell
	for _, at := range order {
		h = append(h, cell(g[at].Op, g[at].N, places(g[at].Kids)...))
	}
	return h, places(roots)
}

// endOfCell returns the cell for which a cell stands, or itself if it comes back to one before.
func endOfCell(g []impl.Cell, at int) int {
	before := map[int]bool{}
	for to := at; !before[to]; to = g[to].Kids[0] {
		if g[to].Op != impl.ExpInd {
			return to
		}
		before[to] = true
	}
	return at
}

// directBy returns cells with those for which they stand in their place, if there are any.
func directBy(g []impl.Cell, list []int) []int {
	var ends []int
	for _, at := range list {
		ends = append(ends, endOfCell(g, at))
	}
	return ends
}

// collectBy returns what CollectGraph returns.
func collectBy(g []impl.Cell, roots []int) ([]impl.Cell, []int) {
	h := cloneGraph(g)
	for at := range h {
		h[at].Kids = directBy(g, h[at].Kids)
	}
	return copyBy(h, directBy(g, roots))
}

// pairOf returns the part of a pair that a cell selects, if it is a selection from one.
func pairOf(g []impl.Cell, at int) (int, bool) {
	if g[at].Op != impl.ExpFst && g[at].Op != impl.ExpSnd {
		return 0, false
	}
	to, ok := impl.FollowInd(g, g[at].Kids[0])
	if !ok || g[to].Op != impl.ExpPair {
		return 0, false
	}
	return g[to].Kids[g[at].Op-impl.ExpFst], true
}

// selectBy changes selections in any order as long as there are some, and
// returns the graph and how many there were.
func selectBy(r *rand.Rand, g []impl.Cell) ([]impl.Cell, int) {
	h := cloneGraph(g)
	many, changed := 0, true
	for changed {
		changed = false
		for _, at := range r.Perm(len(h)) {
			if part, ok := pairOf(h, at); ok {
				h[at] = cell(impl.ExpInd, 0, part)
				many++
				changed = true
			}
		}
	}
	return h, many
}

// liveBy returns how many cells can be reached that do not stand for others.
func liveBy(g []impl.Cell, roots []int) int {
	live := 0
	for _, at := range orderBy(g, roots) {
		if g[at].Op != impl.ExpInd {
			live++
		}
	}
	return live
}

// sameBy reports whether the cells that are reached from two cells in the same
// way are pairs of like ones, where each one is in one pair.
func sameBy(a []impl.Cell, x int, b []impl.Cell, y int) bool {
	other, back := map[int]int{}, map[int]int{}
	var walk func(x int, y int) bool
	walk = func(x int, y int) bool {
		to, seen := other[x]
		from, seenBack := back[y]
		if seen || seenBack {
			return seen && seenBack && to == y && from == x
		}
		other[x], back[y] = y, x
		if a[x].Op != b[y].Op || a[x].N != b[y].N || len(a[x].Kids) != len(b[y].Kids) {
			return false
		}
		for i := range a[x].Kids {
			if !walk(a[x].Kids[i], b[y].Kids[i]) {
				return false
			}
		}
		return true
	}
	return walk(x, y)
}

// checkCopied checks a graph and the places of roots that a function returns.
func checkCopied(t *testing.T, what string, h []impl.Cell, tops []int, ok bool, want []impl.Cell, wantTops []int) {
	t.Helper()
	if !ok || !equalGraphs(h, want) || !slices.Equal(tops, wantTops) {
		t.Fatalf("%s is %v with\n%sand %v, not\n%sand %v", what, ok, impl.FormatGraph(h), tops, impl.FormatGraph(want), wantTops)
	}
}

// checkCopies checks all functions that copy, for some roots.
func checkCopies(t *testing.T, r *rand.Rand, g []impl.Cell, roots []int) {
	t.Helper()
	if order := impl.CopyOrder(g, roots); !slices.Equal(order, orderBy(g, roots)) {
		t.Fatalf("CopyOrder(%v, %v) = %v", g, roots, order)
	}
	if live, ok := impl.LiveCells(g, roots); !ok || live != liveBy(g, roots) {
		t.Fatalf("LiveCells(%v, %v) = %d, %v", g, roots, live, ok)
	}
	h, tops, ok := impl.CopyGraph(g, roots)
	want, wantTops := copyBy(g, roots)
	checkCopied(t, "CopyGraph of\n"+impl.FormatGraph(g), h, tops, ok, want, wantTops)
	h, tops, ok = impl.CollectGraph(g, roots)
	want, wantTops = collectBy(g, roots)
	checkCopied(t, "CollectGraph of\n"+impl.FormatGraph(g), h, tops, ok, want, wantTops)
	selected, _ := selectBy(r, g)
	h, tops, ok = impl.TidyGraph(g, roots)
	want, wantTops = collectBy(selected, roots)
	checkCopied(t, "TidyGraph of\n"+impl.FormatGraph(g), h, tops, ok, want, wantTops)
}

// checkSelected checks SelectGraph.
func checkSelected(t *testing.T, r *rand.Rand, g []impl.Cell) {
	t.Helper()
	want, wantMany := selectBy(r, g)
	h, many, ok := impl.SelectGraph(g)
	if !ok || many != wantMany || !equalGraphs(h, want) {
		t.Fatalf("SelectGraph of\n%sis %v with %d changes and\n%snot %d and\n%s", impl.FormatGraph(g), ok, many, impl.FormatGraph(h), wantMany, impl.FormatGraph(want))
	}
}

// pickRoots returns some cells of a graph, which can be equal.
func pickRoots(r *rand.Rand, g []impl.Cell, most int) []int {
	var roots []int
	for range r.Intn(most + 1) {
		roots = append(roots, r.Intn(len(g)))
	}
	return roots
}

// pairGraph returns a random graph with many pairs, selections and cells that
// stand for others, with operands before and behind them.
func pairGraph(r *rand.Rand, many int) []impl.Cell {
	var g []impl.Cell
	for range many {
		c := impl.Cell{Op: [...]int{impl.ExpNum, impl.ExpInd, impl.ExpInd, impl.ExpPair, impl.ExpPair, impl.ExpPair, impl.ExpFst, impl.ExpSnd, impl.ExpFst, impl.ExpAdd}[r.Intn(10)]}
		for range kidsOfCell(c.Op) {
			c.Kids = append(c.Kids, r.Intn(many))
		}
		g = append(g, c)
	}
	return g
}

// smallGraphs calls what with each graph of some cells of the kinds that are
// changed by collections.
func smallGraphs(many int, what func([]impl.Cell)) {
	cells := []impl.Cell{cell(impl.ExpNum, 4)}
	for at := range many {
		cells = append(cells, cell(impl.ExpInd, 0, at), cell(impl.ExpFst, 0, at), cell(impl.ExpSnd, 0, at))
		for second := range many {
			cells = append(cells, cell(impl.ExpPair, 0, at, second))
		}
	}
	var extend func(g []impl.Cell)
	extend = func(g []impl.Cell) {
		if len(g) == many {
			what(cloneGraph(g))
			return
		}
		for _, c := range cells {
			extend(append(g[:len(g):len(g)], c))
		}
	}
	extend(nil)
}
