package tests

import (
	"math/rand"
	"testing"

	"loop.example/graphreducer/impl"
)

// checkSpine checks a spine; a function of -1 is where there is none.
func checkSpine(t *testing.T, g []impl.Cell, root int, f int, cells ...int) {
	t.Helper()
	got, list, ok := impl.SpineOf(g, root)
	if ok != (f >= 0) || got != max(f, 0) {
		t.Errorf("SpineOf(%v, %d) = %d, %v, %v", g, root, got, list, ok)
	}
	checkInts(t, list, cells)
}

func TestSpineOf(t *testing.T) {
	g := graphOf(t, "fun 0;num 1;num 2;app #0 #1;app #3 #2;app #4 #3;")
	checkSpine(t, g, 0, 0)
	checkSpine(t, g, 1, 1)
	checkSpine(t, g, 3, 0, 3)
	checkSpine(t, g, 4, 0, 4, 3)
	checkSpine(t, g, 5, 0, 5, 4, 3)
	// Cells that stand for others are passed, and are no cells of the spine.
	g = graphOf(t, "fun 5;ind #0;ind #1;num 5;app #2 #3;ind #4;app #5 #1;ind #6;ind #7;")
	checkSpine(t, g, 1, 0)
	checkSpine(t, g, 2, 0)
	checkSpine(t, g, 5, 0, 4)
	checkSpine(t, g, 6, 0, 6, 4)
	checkSpine(t, g, 8, 0, 6, 4)
	// Any other kind is a function, and its operands do not count.
	g = graphOf(t, "num 1;pair #0 #0;fst #4;snd #1;app #2 #0;add #4 #0;sub #4 #4;if #4 #4 #4;app #1 #4;app #3 #4;app #5 #4;app #6 #4;app #7 #4;app #0 #4;")
	for at, f := range map[int]int{4: 2, 8: 1, 9: 3, 10: 5, 11: 6, 12: 7, 13: 0} {
		checkSpine(t, g, at, f, at)
	}
	for _, at := range []int{0, 1, 2, 3, 5, 6, 7} {
		checkSpine(t, g, at, at)
	}
}

func TestSpinesWithoutEnd(t *testing.T) {
	for _, text := range []string{"ind #0;", "app #0 #0;", "app #1 #2;ind #0;num 1;", "app #1 #1;app #0 #0;", "app #2 #1;ind #1;ind #2;", "ind #1;app #0 #2;num 3;", "app #1 #3;app #2 #3;app #0 #3;num 1;"} {
		checkSpine(t, graphOf(t, text), 0, -1)
	}
	g := graphOf(t, "ind #0;num 1;app #0 #1;app #2 #1;ind #3;app #1 #0;app #5 #6;fst #7;app #7 #7;")
	checkSpine(t, g, 2, -1)
	checkSpine(t, g, 3, -1)
	checkSpine(t, g, 4, -1)
	// Circles among the arguments, or in the function, make no difference.
	checkSpine(t, g, 5, 1, 5)
	checkSpine(t, g, 6, 1, 6, 5)
	checkSpine(t, g, 7, 7)
	checkSpine(t, g, 8, 7, 8)
}

func TestLongSpines(t *testing.T) {
	var g []impl.Cell
	var cells []int
	for at := range impl.MaxCells {
		if at == 0 {
			g = append(g, cell(impl.ExpGlobal, 0))
		} else {
			g = append(g, cell(impl.ExpApp, 0, at-1, 0))
			cells = append([]int{at}, cells...)
		}
		checkSpine(t, g, at, 0, cells...)
	}
	p := mustProgram(t, "A4=a;")
	for at := range g {
		redex, code := impl.RedexOf(p, g, at)
		if impl.IsValue(p, g, at) != (at < 4) || redex != min(at, 4) || code != impl.EvalDone {
			t.Errorf("RedexOf with %d arguments = %d, %d", at, redex, code)
		}
	}
	g[0] = cell(impl.ExpApp, 0, impl.MaxCells-1, 1)
	for _, at := range []int{0, 1, 200, impl.MaxCells - 1} {
		checkSpine(t, g, at, -1)
	}
	g[0] = cell(impl.ExpInd, 0, impl.MaxCells-1)
	checkSpine(t, g, 0, -1)
	checkSpine(t, indChain(impl.MaxCells-1), impl.MaxCells-1, 0)
}

func TestSpineOfInvalid(t *testing.T) {
	g := graphOf(t, "fun 0;num 1;app #0 #1;")
	for _, root := range []int{-1, 3, 4, impl.MaxCells, 1<<63 - 1, -1 << 63} {
		checkSpine(t, g, root, -1)
		checkSpine(t, nil, root, -1)
	}
	checkSpine(t, nil, 0, -1)
	checkSpine(t, []impl.Cell{}, 0, -1)
	for _, wrong := range wrongCells() {
		checkSpine(t, append(cloneGraph(g), wrong), 2, -1)
		checkSpine(t, append(cloneGraph(g), wrong), 3, -1)
	}
	checkSpine(t, numberCells(impl.MaxCells), impl.MaxCells-1, impl.MaxCells-1)
	checkSpine(t, numberCells(impl.MaxCells+1), 0, -1)
}

func TestIsValue(t *testing.T) {
	p := mustProgram(t, someDefs)
	for _, text := range []string{
		"num 0;", "pair #0 #0;", "pair #1 #2;ind #1;fst #0;", "ind #1;num 5;", "ind #1;ind #2;pair #0 #0;",
		"fun 1;", "fun 2;", "fun 4;", "ind #1;fun 3;", "app #1 #0;fun 2;", "app #1 #0;fun 3;", "app #1 #0;app #2 #0;fun 3;", "app #1 #3;app #2 #3;fun 4;ind #3;",
		"app #1 #1;app #2 #1;app #3 #1;fun 4;", "ind #1;app #2 #2;ind #3;fun 2;",
	} {
		g := graphOf(t, text)
		if !impl.IsValue(p, g, 0) {
			t.Errorf("%s is no value", text)
		}
		if redex, code := impl.RedexOf(p, g, 0); redex != 0 || code != impl.EvalDone {
			t.Errorf("RedexOf(%s) = %d, %d", text, redex, code)
		}
		h, code := impl.StepGraph(p, g, 0)
		if code != impl.EvalDone || !equalGraphs(h, g) {
			t.Errorf("StepGraph(%s) = %v, %d", text, h, code)
		}
		for _, fuel := range []int{0, 1, impl.MaxFuel} {
			h, code, steps := impl.EvalGraph(p, g, 0, fuel)
			if code != impl.EvalDone || steps != 0 || !equalGraphs(h, g) {
				t.Errorf("EvalGraph(%s) = %v, %d, %d", text, h, code, steps)
			}
		}
	}
	for _, text := range []string{
		"fun 0;", "fun 5;", "app #1 #1;fun 0;", "app #1 #1;fun 1;", "app #1 #2;app #2 #2;fun 2;", "app #1 #1;app #2 #2;app #3 #3;fun 3;", "app #1 #1;app #2 #2;app #3 #3;fun 2;",
		"app #1 #1;app #2 #2;app #3 #3;app #4 #4;fun 4;", "app #1 #1;num 1;", "app #1 #1;pair #0 #0;", "ind #0;", "app #0 #0;", "fst #1;pair #0 #0;", "snd #1;pair #0 #0;",
		"add #1 #1;num 1;", "sub #1 #1;num 1;", "if #1 #1 #1;num 1;", "ind #1;add #2 #2;num 1;", "app #1 #2;fst #2;pair #0 #0;",
	} {
		if impl.IsValue(p, graphOf(t, text), 0) {
			t.Errorf("%s is a value", text)
		}
	}
	// The redex of a value is the cell itself, even if it stands for another one.
	g := graphOf(t, "num 5;ind #0;ind #1;fun 2;app #3 #0;ind #4;")
	for at := range g {
		if redex, code := impl.RedexOf(p, g, at); redex != at || code != impl.EvalDone {
			t.Errorf("RedexOf(%d) = %d, %d", at, redex, code)
		}
	}
}

// TestTreesAreExpressions checks that values and steps of a graph without
// sharing are those of its expression.
func TestTreesAreExpressions(t *testing.T) {
	r := rand.New(rand.NewSource(41))
	var ends [impl.EvalInvalid]int
	for range 6000 {
		p := randomProgram(r)
		e := randomClosed(r, p)
		g, root, _ := impl.BuildGraph(e, len(p))
		if impl.IsValue(p, g, root) != impl.IsHead(p, e) {
			t.Fatalf("IsValue(%s, %s) is %v", impl.FormatProgram(p), impl.FormatExpr(e), impl.IsValue(p, g, root))
		}
		f, args := impl.Arguments(e)
		if at, cells, ok := impl.SpineOf(g, root); !ok || g[at].Op != f.Op || g[at].N != f.N || len(cells) != len(args) {
			t.Fatalf("SpineOf(%s) = %d, %v, %v", impl.FormatExpr(e), at, cells, ok)
		}
		h, code := impl.StepGraph(p, g, root)
		back, ok := impl.ReadGraph(h, root, len(p))
		want, wantCode := impl.StepName(p, e)
		ends[wantCode]++
		switch wantCode {
		case impl.EvalLarge:
			if ok || code != impl.EvalDone {
				t.Fatalf("StepGraph(%s, %s) = %v, %d", impl.FormatProgram(p), impl.FormatExpr(e), h, code)
			}
			continue
		case impl.EvalStuck:
			want = e
		}
		if !ok || code != wantCode || !equal(back, want) {
			t.Fatalf("StepGraph(%s, %s) = %v, %d", impl.FormatProgram(p), impl.FormatExpr(e), h, code)
		}
	}
	if ends[impl.EvalDone] < 2000 || ends[impl.EvalStuck] < 200 || ends[impl.EvalLarge] < 5 {
		t.Errorf("the numbers of steps with each code are %v", ends)
	}
}
