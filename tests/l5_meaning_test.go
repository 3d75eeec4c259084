package tests

import (
	"math/rand"
	"slices"
	"testing"

	"loop.example/graphreducer/impl"
)

// reachedBy returns the cells that are reached from some roots, in ascending order.
func reachedBy(g []impl.Cell, roots []int) []int {
	var list []int
	for _, root := range roots {
		list = append(list, impl.CellsFrom(g, root)...)
	}
	slices.Sort(list)
	return slices.Compact(list)
}

// blindBy returns how many cells that are reached stand for none.
func blindBy(g []impl.Cell, roots []int) int {
	blind := 0
	for _, at := range reachedBy(g, roots) {
		if _, ok := impl.FollowInd(g, at); !ok {
			blind++
		}
	}
	return blind
}

// selected returns an expression without selections from pairs.
func selected(e impl.Expr) impl.Expr {
	out := impl.Expr{Op: e.Op, N: e.N}
	for _, k := range e.Kids {
		out.Kids = append(out.Kids, selected(k))
	}
	if (e.Op == impl.ExpFst || e.Op == impl.ExpSnd) && out.Kids[0].Op == impl.ExpPair {
		return out.Kids[0].Kids[e.Op-impl.ExpFst]
	}
	return out
}

// TestCollectionsKeepExprs checks that each root is read back as before, or
// without selections from pairs.
func TestCollectionsKeepExprs(t *testing.T) {
	r := rand.New(rand.NewSource(62))
	read, shorter := 0, 0
	for range 6000 {
		g := mixedGraph(r, randomProgram(r))
		roots := append(pickRoots(r, g, 4), len(g)-1)
		copied, tops, _ := impl.CopyGraph(g, roots)
		collected, direct, _ := impl.CollectGraph(g, roots)
		tidied, tidy, _ := impl.TidyGraph(g, roots)
		for i, root := range roots {
			e, ok := impl.ReadGraph(g, root, allDefs)
			first, okFirst := impl.ReadGraph(copied, tops[i], allDefs)
			second, okSecond := impl.ReadGraph(collected, direct[i], allDefs)
			if okFirst != ok || okSecond != ok || !equal(first, e) || !equal(second, e) {
				t.Fatalf("%d of\n%sis read back as %v, and copied as %v and %v", root, impl.FormatGraph(g), e, first, second)
			}
			if !ok {
				continue
			}
			read++
			want := selected(e)
			third, ok := impl.ReadGraph(tidied, tidy[i], allDefs)
			if !ok || !equal(third, want) {
				t.Fatalf("%s is tidied as %v, %v", impl.FormatExpr(e), impl.FormatExpr(third), ok)
			}
			if !equal(e, want) {
				shorter++
			}
		}
	}
	if read < 3000 || shorter < 200 {
		t.Errorf("%d expressions are read back, %d of them with selections", read, shorter)
	}
}

// checkNothingElse checks that all cells of a graph are reached, and that it is
// copied as itself, with the same function.
func checkNothingElse(t *testing.T, g []impl.Cell, roots []int, again func([]impl.Cell, []int) ([]impl.Cell, []int, bool)) {
	t.Helper()
	if len(reachedBy(g, roots)) != len(g) || !impl.GraphValid(g, allDefs) {
		t.Fatalf("from %v, not all cells are reached of\n%s", roots, impl.FormatGraph(g))
	}
	h, tops, ok := again(g, roots)
	checkCopied(t, "a copy of a copy", h, tops, ok, g, roots)
	for at, where := range impl.CopyOrder(g, roots) {
		if at != where {
			t.Fatalf("CopyOrder(%v, %v) is not ascending", g, roots)
		}
	}
}

func TestCollectionsKeepNothingElse(t *testing.T) {
	r := rand.New(rand.NewSource(63))
	blind := 0
	for i := range 6000 {
		g := randomGraph(r, 1+r.Intn(40), allDefs, 1+r.Intn(9))
		if i%2 == 0 {
			g = pairGraph(r, 1+r.Intn(40))
		}
		roots := append(pickRoots(r, g, 5), r.Intn(len(g)))
		copied, tops, _ := impl.CopyGraph(g, roots)
		checkNothingElse(t, copied, tops, impl.CopyGraph)
		live, _ := impl.LiveCells(g, roots)
		inCopy, _ := impl.LiveCells(copied, tops)
		if inCopy != live || len(copied) != len(reachedBy(g, roots)) {
			t.Fatalf("CopyGraph(%v, %v) has %d cells, of which %d are live, not %d", g, roots, len(copied), inCopy, live)
		}
		for k, root := range roots {
			if !impl.SameFrom(g, root, copied, tops[k]) {
				t.Fatalf("CopyGraph(%v, %v) has another graph from %d", g, roots, root)
			}
		}
		// Only cells that stand for none are left of those that stand for others.
		collected, direct, _ := impl.CollectGraph(g, roots)
		checkNothingElse(t, collected, direct, impl.CollectGraph)
		many := blindBy(g, roots)
		inds := 0
		for at, c := range collected {
			if c.Op != impl.ExpInd {
				continue
			}
			inds++
			if _, ok := impl.FollowInd(collected, at); ok {
				t.Fatalf("CollectGraph(%v, %v) keeps a cell that stands for another one", g, roots)
			}
		}
		if len(collected) != live+many || inds != many {
			t.Fatalf("CollectGraph(%v, %v) has %d cells, with %d live ones and %d that stand for none", g, roots, len(collected), live, many)
		}
		blind += many
		tidied, tidy, _ := impl.TidyGraph(g, roots)
		checkNothingElse(t, tidied, tidy, impl.TidyGraph)
		if left, _ := impl.LiveCells(tidied, tidy); left > live {
			t.Fatalf("TidyGraph(%v, %v) has %d live cells", g, roots, left)
		}
		for at := range tidied {
			if _, ok := pairOf(tidied, at); ok {
				t.Fatalf("TidyGraph(%v, %v) keeps a selection from a pair", g, roots)
			}
		}
	}
	if blind < 200 {
		t.Errorf("%d cells stand for none", blind)
	}
}

// TestCollectionsKeepSharing checks that copies are shared if the cells were.
func TestCollectionsKeepSharing(t *testing.T) {
	r := rand.New(rand.NewSource(64))
	for range 2000 {
		g := randomGraph(r, 1+r.Intn(40), allDefs, 1+r.Intn(9))
		root := r.Intn(len(g))
		order := impl.CopyOrder(g, []int{root})
		h, tops, _ := impl.CopyGraph(g, []int{root})
		var shared []int
		for _, at := range impl.SharedCells(h, tops[0]) {
			shared = append(shared, order[at])
		}
		slices.Sort(shared)
		checkInts(t, shared, impl.SharedCells(g, root))
	}
}

// numberAt returns the number for which a cell stands after an evaluation, and
// its code and steps.
func numberAt(p []impl.Def, g []impl.Cell, root int, fuel int) (int, int, int) {
	h, code, steps := impl.EvalGraph(p, g, root, fuel)
	if code != impl.EvalDone {
		return 0, code, steps
	}
	to, ok := impl.FollowInd(h, root)
	if !ok || h[to].Op != impl.ExpNum {
		return -1, code, steps
	}
	return h[to].N, code, steps
}

// TestCollectionsKeepNumbers checks that a graph is evaluated as before, in as
// many steps or, without selections from pairs, in no more.
func TestCollectionsKeepNumbers(t *testing.T) {
	r := rand.New(rand.NewSource(65))
	var codes [impl.EvalInvalid]int
	fewer := 0
	for range 10000 {
		p := randomProgram(r)
		g := mixedGraph(r, p)
		root := someWork(r, p, g)
		n, code, steps := numberAt(p, g, root, 100)
		codes[code]++
		if code == impl.EvalLarge {
			continue
		}
		copied, tops, _ := impl.CopyGraph(g, []int{root})
		first, firstCode, firstSteps := numberAt(p, copied, tops[0], 100)
		collected, tops, _ := impl.CollectGraph(g, []int{root})
		second, secondCode, secondSteps := numberAt(p, collected, tops[0], 100)
		if first != n || firstCode != code || firstSteps != steps || second != n || secondCode != code || secondSteps != steps {
			t.Fatalf("%d of\n%swith %s has %d, %d, %d, and copied %d, %d, %d and %d, %d, %d", root, impl.FormatGraph(g), impl.FormatProgram(p), n, code, steps, first, firstCode, firstSteps, second, secondCode, secondSteps)
		}
		if code == impl.EvalFuel {
			continue
		}
		tidied, tops, _ := impl.TidyGraph(g, []int{root})
		third, thirdCode, thirdSteps := numberAt(p, tidied, tops[0], 100)
		if third != n || thirdCode != code || thirdSteps > steps {
			t.Fatalf("%d of\n%swith %s has %d, %d, %d, and tidied %d, %d, %d", root, impl.FormatGraph(g), impl.FormatProgram(p), n, code, steps, third, thirdCode, thirdSteps)
		}
		if thirdSteps < steps {
			fewer++
		}
	}
	if codes[impl.EvalDone] < 1000 || codes[impl.EvalStuck] < 1000 || codes[impl.EvalLarge] < 20 || fewer < 200 {
		t.Errorf("the numbers of evaluations with each code are %v, and %d have fewer steps", codes, fewer)
	}
}

// TestCollectionsOfExprs checks that nothing but the order of its cells changes
// if the graph of an expression is copied.
func TestCollectionsOfExprs(t *testing.T) {
	r := rand.New(rand.NewSource(66))
	for range 2000 {
		e := randomExpr(r, 0, allDefs, 1+r.Intn(5))
		g, root, ok := impl.BuildGraph(e, allDefs)
		if !ok {
			continue
		}
		live, _ := impl.LiveCells(g, []int{root})
		h, tops, ok := impl.CollectGraph(g, []int{root})
		back, okBack := impl.ReadGraph(h, tops[0], allDefs)
		if !ok || !okBack || !equal(back, e) || live != impl.SizeOf(e) || len(h) != live || tops[0] != 0 || !impl.SameFrom(g, root, h, 0) {
			t.Fatalf("%s is collected as %v, %v, of %d cells", impl.FormatExpr(e), h, tops, live)
		}
		again, _, _ := impl.BuildGraph(back, allDefs)
		if !equalGraphs(again, g) {
			t.Fatalf("%s is built as %v", impl.FormatExpr(back), again)
		}
	}
}
