package tests

import (
	"math/rand"
	"slices"
	"testing"

	"loop.example/graphreducer/impl"
)

// canChangeBy reports whether a step can change a cell.
func canChangeBy(p []impl.Def, g []impl.Cell, at int) bool {
	c := g[at]
	switch c.Op {
	case impl.ExpGlobal:
		return p[c.N].Arity == 0
	case impl.ExpApp:
		f, cells, ok := spineBy(g, at, map[int]bool{})
		return ok && g[f].Op == impl.ExpGlobal && len(cells) == p[g[f].N].Arity
	case impl.ExpFst, impl.ExpSnd:
		return standsForKind(g, c.Kids[0], impl.ExpPair)
	case impl.ExpIf:
		return standsForKind(g, c.Kids[0], impl.ExpNum)
	case impl.ExpAdd, impl.ExpSub:
		return standsForKind(g, c.Kids[0], impl.ExpNum) && standsForKind(g, c.Kids[1], impl.ExpNum)
	}
	return false
}

// redexesBy returns what RedexesOf returns.
func redexesBy(p []impl.Def, g []impl.Cell) []int {
	var list []int
	for at := range g {
		if canChangeBy(p, g, at) {
			list = append(list, at)
		}
	}
	return list
}

// playBy returns what PlayAt returns.
func playBy(p []impl.Def, g []impl.Cell, script []int) ([]impl.Cell, int) {
	steps := 0
	for _, i := range script {
		list := redexesBy(p, g)
		if i < 0 || len(list) == 0 {
			continue
		}
		if h, ok := changeBy(p, g, list[i%len(list)]); ok {
			g = h
			steps++
		}
	}
	return g, steps
}

// sparkBy returns what SparkGraph returns, with one step after the other.
func sparkBy(p []impl.Def, g []impl.Cell) ([]impl.Cell, int) {
	steps := 0
	for _, at := range redexesBy(p, g) {
		if h, ok := changeBy(p, g, at); ok {
			g = h
			steps++
		}
	}
	return g, steps
}

// sameCellsBy returns for each two cells whether they are the same: as long as
// this follows for any two, it is noted.
func sameCellsBy(g []impl.Cell) [][]bool {
	same := make([][]bool, len(g))
	for at := range same {
		same[at] = make([]bool, len(g))
	}
	agree := func(x int, y int) bool { return x == y || same[x][y] }
	for changed := true; changed; {
		changed = false
		for x := range g {
			for y := range g {
				if !same[x][y] && g[x].Op == g[y].Op && g[x].N == g[y].N && slices.EqualFunc(g[x].Kids, g[y].Kids, agree) {
					same[x][y], changed = true, true
				}
			}
		}
	}
	return same
}

// mergeBy returns what MergeCells returns.
func mergeBy(g []impl.Cell, roots []int) ([]impl.Cell, []int) {
	h, tops := collectBy(g, roots)
	same := sameCellsBy(h)
	replaced := func(list []int) []int {
		var firsts []int
		for _, at := range list {
			firsts = append(firsts, slices.Index(same[at], true))
		}
		return firsts
	}
	var merged []impl.Cell
	for _, c := range h {
		merged = append(merged, cell(c.Op, c.N, replaced(c.Kids)...))
	}
	return copyBy(merged, replaced(tops))
}

// checkMerge checks MergeCells.
func checkMerge(t *testing.T, g []impl.Cell, roots []int) []impl.Cell {
	t.Helper()
	want, wantTops := mergeBy(g, roots)
	h, tops, ok := impl.MergeCells(g, roots)
	checkCopied(t, "MergeCells of\n"+impl.FormatGraph(g), h, tops, ok, want, wantTops)
	return h
}

// fewKinds returns a random graph with many cells that are equal to others,
// with operands before and behind them.
func fewKinds(r *rand.Rand, many int) []impl.Cell {
	var g []impl.Cell
	for range many {
		op := [...]int{impl.ExpNum, impl.ExpNum, impl.ExpFst, impl.ExpFst, impl.ExpPair, impl.ExpAdd, impl.ExpIf, impl.ExpInd}[r.Intn(8)]
		c := impl.Cell{Op: op}
		if op == impl.ExpNum {
			c.N = r.Intn(2)
		}
		for range kidsOfCell(op) {
			c.Kids = append(c.Kids, r.Intn(min(many, 1+r.Intn(many))))
		}
		g = append(g, c)
	}
	return g
}

// randomScript returns a script of steps, some of whose elements are negative.
func randomScript(r *rand.Rand, most int) []int {
	var script []int
	for range r.Intn(most + 1) {
		script = append(script, r.Intn(30)*r.Intn(30)-r.Intn(20))
	}
	return script
}
