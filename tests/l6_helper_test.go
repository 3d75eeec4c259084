package tests

import (
	"math/rand"
	"testing"

	"loop.example/graphreducer/impl"
)

// cloneRun returns a run in new memory.
func cloneRun(x impl.Run) impl.Run {
	x.Graph = cloneGraph(x.Graph)
	return x
}

// sameRuns compares two runs.
func sameRuns(a impl.Run, b impl.Run) bool {
	return equalGraphs(a.Graph, b.Graph) && a.Root == b.Root && a.Steps == b.Steps && a.Moved == b.Moved &&
		a.Peak == b.Peak && a.Ticks == b.Ticks && a.Rounds == b.Rounds
}

// checkRun checks the run and the code that a function returns.
func checkRun(t *testing.T, what string, x impl.Run, code int, want impl.Run, wantCode int) {
	t.Helper()
	if code != wantCode || !sameRuns(x, want) {
		t.Fatalf("%s has the code %d, and is\n%v, not %d, and\n%v", what, code, x, wantCode, want)
	}
}

// checkNoRun checks that a function returns the zero value.
func checkNoRun(t *testing.T, what string, x impl.Run, code int) {
	t.Helper()
	if code != impl.EvalInvalid || !sameRuns(x, impl.Run{}) {
		t.Errorf("%s has the code %d, and is %v", what, code, x)
	}
}

// runAt returns the run of a graph at its beginning.
func runAt(g []impl.Cell, root int) impl.Run {
	return impl.Run{Graph: g, Root: root, Peak: len(g)}
}

// collectionBy returns a run after a collection.
func collectionBy(r *rand.Rand, x impl.Run, tidy bool) impl.Run {
	g := x.Graph
	if tidy {
		g, _ = selectBy(r, g)
	}
	h, tops := collectBy(g, []int{x.Root})
	x.Graph, x.Root = h, tops[0]
	x.Rounds++
	x.Moved += len(h)
	return x
}

// tryBy returns a run after a step, if there is one.
func tryBy(p []impl.Def, x impl.Run) (impl.Run, int) {
	if valueBy(p, x.Graph, x.Root) {
		return x, impl.EvalDone
	}
	h, code, _ := stepBy(p, x.Graph, x.Root)
	if code == impl.EvalDone {
		x.Graph = h
		x.Steps++
		x.Peak = max(x.Peak, len(h))
	}
	return x, code
}

// tickBy returns what StepRun returns.
func tickBy(r *rand.Rand, p []impl.Def, x impl.Run, limit int, tidy bool) (impl.Run, int) {
	if len(x.Graph) > limit && !valueBy(p, x.Graph, x.Root) {
		x = collectionBy(r, x, tidy)
	}
	y, code := tryBy(p, x)
	if code == impl.EvalLarge {
		return tryBy(p, collectionBy(r, x, tidy))
	}
	return y, code
}

// runBy returns what EvalRun returns.
func runBy(r *rand.Rand, p []impl.Def, e impl.Expr, fuel int, limit int, tidy bool) (impl.Run, int) {
	g, root, _ := impl.BuildGraph(e, len(p))
	x, code := runAt(g, root), impl.EvalDone
	for code == impl.EvalDone && !valueBy(p, x.Graph, x.Root) {
		if x.Ticks == fuel {
			return x, impl.EvalFuel
		}
		x, code = tickBy(r, p, x, limit, tidy)
		x.Ticks++
	}
	return x, code
}

// peakBy returns what PeakCells returns.
func peakBy(r *rand.Rand, p []impl.Def, e impl.Expr, fuel int, tidy bool) (int, int) {
	g, root, _ := impl.BuildGraph(e, len(p))
	x, most := runAt(g, root), 0
	for {
		x = collectionBy(r, x, tidy)
		most = max(most, len(x.Graph))
		if valueBy(p, x.Graph, x.Root) {
			return most, impl.EvalDone
		}
		if x.Steps == fuel {
			return most, impl.EvalFuel
		}
		next, code := tryBy(p, x)
		if code != impl.EvalDone {
			return most, code
		}
		x = next
	}
}

// numberOf returns what NumberRun has for a run and its code.
func numberOf(x impl.Run, code int) (int, int) {
	if code != impl.EvalDone {
		return 0, code
	}
	if !standsForKind(x.Graph, x.Root, impl.ExpNum) {
		return 0, impl.EvalStuck
	}
	to, _ := impl.FollowInd(x.Graph, x.Root)
	return x.Graph[to].N, impl.EvalDone
}

// heldCells returns a graph of many cells with a call of the first function at
// the end, from which all of them are reached.
func heldCells(many int) []impl.Cell {
	g := []impl.Cell{cell(impl.ExpGlobal, 0), cell(impl.ExpNum, 7)}
	for len(g) < many-1 {
		g = append(g, cell(impl.ExpFst, 0, len(g)-1))
	}
	return append(g, cell(impl.ExpApp, 0, 0, len(g)-1))
}

// someLimit returns a limit of cells, often a small one or one of the ends.
func someLimit(r *rand.Rand) int {
	switch r.Intn(4) {
	case 0:
		return 0
	case 1:
		return impl.MaxCells
	case 2:
		return r.Intn(40)
	}
	return r.Intn(impl.MaxCells + 1)
}
