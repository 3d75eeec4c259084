package tests

import (
	"math/rand"
	"testing"

	"loop.example/graphreducer/impl"
)

// checkEval checks an evaluation of a graph by the graph that it ends with.
func checkEval(t *testing.T, program string, graph string, root int, fuel int, want string, wantCode int, wantSteps int) {
	t.Helper()
	h, code, steps := impl.EvalGraph(mustProgram(t, program), graphOf(t, graph), root, fuel)
	if code != wantCode || steps != wantSteps {
		t.Errorf("EvalGraph(%s, %s, %d, %d) has the code %d and %d steps", program, graph, root, fuel, code, steps)
	}
	checkGraph(t, program+graph, h, graphOf(t, want))
}

func TestEvalGraph(t *testing.T) {
	const call = "fun 0;num 1;num 1;add #1 #2;app #0 #3;"
	checkEval(t, "A1=(a+a);", call, 4, 9, "fun 0;num 1;num 1;num 2;ind #5;num 4;", impl.EvalDone, 3)
	checkEval(t, "A1=(a+a);", call, 4, 3, "fun 0;num 1;num 1;num 2;ind #5;num 4;", impl.EvalDone, 3)
	checkEval(t, "A1=(a+a);", call, 4, 2, "fun 0;num 1;num 1;num 2;ind #5;add #3 #3;", impl.EvalFuel, 2)
	checkEval(t, "A1=(a+a);", call, 4, 1, "fun 0;num 1;num 1;add #1 #2;ind #5;add #3 #3;", impl.EvalFuel, 1)
	checkEval(t, "A1=(a+a);", call, 4, 0, call, impl.EvalFuel, 0)
	// The root need not be the last cell: only what it needs is evaluated.
	checkEval(t, "A1=(a+a);", call, 3, 9, "fun 0;num 1;num 1;num 2;app #0 #3;", impl.EvalDone, 1)
	checkEval(t, "A1=(a+a);", call, 0, 9, call, impl.EvalDone, 0)
	checkEval(t, "", "num 1;add #0 #0;pair #1 #1;", 2, 9, "num 1;add #0 #0;pair #1 #1;", impl.EvalDone, 0)
	checkEval(t, "A1=(A a);", "num 1;fun 0;app #1 #0;pair #2 #0;snd #3;", 4, 9, "num 1;fun 0;app #1 #0;pair #2 #0;ind #0;", impl.EvalDone, 1)
	// What was done before an end remains.
	checkEval(t, "", "num 1;add #0 #0;fst #1;", 2, 9, "num 1;num 2;fst #1;", impl.EvalStuck, 1)
	checkEval(t, "", "num 1;add #0 #0;fst #1;", 2, 1, "num 1;num 2;fst #1;", impl.EvalFuel, 1)
	checkEval(t, "A0=A;", "fun 0;", 0, 3, "ind #1;ind #2;ind #3;fun 0;", impl.EvalFuel, 3)
}

func TestSharedFunctionsWithoutArguments(t *testing.T) {
	// A cell that is shared is evaluated once, and two cells with the same function each for itself.
	checkEval(t, "A0=(1+2);", "fun 0;add #0 #0;", 1, 9, "ind #4;num 6;num 1;num 2;num 3;", impl.EvalDone, 3)
	checkEval(t, "A0=(1+2);", "fun 0;fun 0;add #0 #1;", 2, 9, "ind #5;ind #8;num 6;num 1;num 2;num 3;num 1;num 2;num 3;", impl.EvalDone, 5)
	// Also in front of arguments, and behind cells that stand for it.
	checkEval(t, "A0=B;B1=(a+a);", "fun 0;num 1;app #0 #1;num 2;ind #0;app #4 #3;add #2 #5;", 6, 9, "ind #7;num 1;ind #8;num 2;ind #0;ind #9;num 6;fun 1;num 2;num 4;", impl.EvalDone, 6)
	// An evaluation goes on where another one ended.
	p := mustProgram(t, "A0=<(1+2),A>;")
	g := graphOf(t, "fun 0;fst #0;snd #0;fst #2;pair #1 #3;")
	for _, c := range []struct{ root, steps int }{{1, 3}, {3, 4}, {1, 0}, {0, 0}, {2, 0}, {4, 0}} {
		h, code, steps := impl.EvalGraph(p, g, c.root, impl.MaxFuel)
		if code != impl.EvalDone || steps != c.steps {
			t.Errorf("EvalGraph(%v, %d) has the code %d and %d steps", g, c.root, code, steps)
		}
		g = h
	}
}

func TestSharedApplications(t *testing.T) {
	// The call to as many arguments as the arity is shared, whatever is behind it.
	checkEval(t, "A1=B;B1=(a+a);", "fun 0;num 5;app #0 #1;num 1;app #2 #3;num 2;app #2 #5;add #4 #6;", 7, 9,
		"fun 0;num 5;ind #8;num 1;ind #9;num 2;ind #10;num 6;fun 1;num 2;num 4;", impl.EvalDone, 6)
	// With fewer arguments, it is no call that is shared.
	checkEval(t, "A2=(a+b);", "fun 0;num 5;app #0 #1;num 1;app #2 #3;num 2;app #2 #5;add #4 #6;", 7, 9,
		"fun 0;num 5;app #0 #1;num 1;ind #8;num 2;ind #9;num 13;num 6;num 7;", impl.EvalDone, 5)
	// Two more arguments than the arity.
	checkEval(t, "A1=a;", "fun 0;fun 0;app #0 #1;fun 0;app #2 #3;num 7;app #4 #5;", 6, 9, "fun 0;fun 0;ind #1;fun 0;ind #3;num 7;ind #5;", impl.EvalDone, 3)
}

func TestCircles(t *testing.T) {
	// A list without end that is its own part, and a function that is its own argument.
	checkEval(t, "", "num 1;pair #0 #1;snd #1;snd #2;fst #3;", 4, 9, "num 1;pair #0 #1;ind #1;ind #1;ind #0;", impl.EvalDone, 3)
	checkEval(t, "A1=<1,a>;", "fun 0;app #0 #1;snd #1;fst #2;", 3, 9, "fun 0;ind #5;ind #1;ind #4;num 1;pair #4 #1;", impl.EvalDone, 3)
	// A step can make a cell its own operand, or let it stand for itself.
	checkEval(t, "A1=(a+1);", "fun 0;app #0 #1;", 1, 9, "fun 0;ind #3;num 1;add #1 #2;", impl.EvalStuck, 1)
	checkEval(t, "A1=(1+a);", "fun 0;app #0 #1;", 1, 9, "fun 0;ind #3;num 1;add #2 #1;", impl.EvalStuck, 1)
	checkEval(t, "A1=a;", "fun 0;app #0 #1;", 1, 9, "fun 0;ind #1;", impl.EvalStuck, 1)
	checkEval(t, "", "num 0;if #0 #1 #0;", 1, 9, "num 0;ind #1;", impl.EvalStuck, 1)
	checkEval(t, "", "pair #1 #1;fst #0;add #1 #1;", 2, 9, "pair #1 #1;ind #1;add #1 #1;", impl.EvalStuck, 1)
}

func TestMostSteps(t *testing.T) {
	// One sum behind the other: as many steps as the number of the root.
	g := numberCells(2)
	for at := 2; at < impl.MaxCells; at++ {
		g = append(g, cell(impl.ExpAdd, 0, 1, at-1))
	}
	for _, root := range []int{2, 50, impl.MaxFuel, impl.MaxFuel + 1, impl.MaxFuel + 2, impl.MaxCells - 1} {
		for _, fuel := range []int{0, 1, 49, impl.MaxFuel - 1, impl.MaxFuel} {
			want, code := min(root-1, fuel), impl.EvalDone
			if fuel < root-1 {
				code = impl.EvalFuel
			}
			h, got, steps := impl.EvalGraph(nil, g, root, fuel)
			if got != code || steps != want || code == impl.EvalDone && h[root].N != root {
				t.Errorf("EvalGraph(%d, %d) has the code %d and %d steps", root, fuel, got, steps)
			}
		}
	}
}

// someWork returns a cell that stands for no value, if it finds one.
func someWork(r *rand.Rand, p []impl.Def, g []impl.Cell) int {
	at := len(g) - 1
	for range 5 * len(g) {
		if !valueBy(p, g, at) {
			break
		}
		at = r.Intn(len(g))
	}
	return at
}

func TestRandomEvals(t *testing.T) {
	r := rand.New(rand.NewSource(44))
	var codes [impl.EvalInvalid]int
	for range 6000 {
		p := randomProgram(r)
		g := mixedGraph(r, p)
		before := cloneGraph(g)
		for _, root := range []int{r.Intn(len(g)), someWork(r, p, g)} {
			fuel := r.Intn(3) * r.Intn(20)
			want, wantCode, wantSteps := evalBy(p, g, root, fuel)
			h, code, steps := impl.EvalGraph(p, g, root, fuel)
			if code != wantCode || steps != wantSteps || !equalGraphs(h, want) {
				t.Fatalf("EvalGraph(%s, %v, %d, %d) = %v, %d, %d, not %v, %d, %d", impl.FormatProgram(p), g, root, fuel, h, code, steps, want, wantCode, wantSteps)
			}
			codes[code]++
			again, code, more := impl.EvalGraph(p, h, root, 0)
			if more != 0 || !equalGraphs(again, h) || (code == impl.EvalDone) != (wantCode == impl.EvalDone) {
				t.Fatalf("EvalGraph(%s, %v, %d, 0) = %v, %d, %d", impl.FormatProgram(p), h, root, again, code, more)
			}
		}
		if !equalGraphs(g, before) {
			t.Fatal("EvalGraph changes its argument")
		}
	}
	for code, many := range codes {
		if many < 30 {
			t.Errorf("%d evaluations have the code %d", many, code)
		}
	}
}

// checkNoReduction checks the functions of graphs with arguments that are not valid.
func checkNoReduction(t *testing.T, p []impl.Def, g []impl.Cell, root int) {
	t.Helper()
	if impl.IsValue(p, g, root) {
		t.Errorf("IsValue(%v, %v, %d)", p, g, root)
	}
	if redex, code := impl.RedexOf(p, g, root); redex != 0 || code != impl.EvalInvalid {
		t.Errorf("RedexOf(%v, %v, %d) = %d, %d", p, g, root, redex, code)
	}
	if h, code := impl.StepGraph(p, g, root); len(h) != 0 || code != impl.EvalInvalid {
		t.Errorf("StepGraph(%v, %v, %d) = %v, %d", p, g, root, h, code)
	}
	for _, fuel := range []int{-1, 0, 10, impl.MaxFuel, impl.MaxFuel + 1} {
		checkNoEval(t, p, g, root, fuel)
	}
}

func checkNoEval(t *testing.T, p []impl.Def, g []impl.Cell, root int, fuel int) {
	t.Helper()
	if h, code, steps := impl.EvalGraph(p, g, root, fuel); len(h) != 0 || code != impl.EvalInvalid || steps != 0 {
		t.Errorf("EvalGraph(%v, %v, %d, %d) = %v, %d, %d", p, g, root, fuel, h, code, steps)
	}
}

func TestInvalidGraphs(t *testing.T) {
	p := mustProgram(t, "A1=(a+a);B0=5;")
	for _, text := range []string{"num 1;", "fun 1;num 1;app #0 #1;", "num 1;add #0 #0;", "ind #0;"} {
		g := graphOf(t, text)
		for _, root := range []int{-1, len(g), len(g) + 1, impl.MaxCells, 1<<63 - 1, -1 << 63} {
			checkNoReduction(t, p, g, root)
		}
		for _, fuel := range []int{-1, -2, -1 << 63, 301, 302, 1<<63 - 1} {
			checkNoEval(t, p, g, 0, fuel)
		}
		for _, wrong := range wrongPrograms() {
			checkNoReduction(t, wrong, graphOf(t, "num 1;add #0 #0;"), len(g)%2)
		}
		for _, wrong := range wrongCells() {
			checkNoReduction(t, p, append(cloneGraph(g), wrong), 0)
			checkNoReduction(t, p, append(cloneGraph(g), wrong), len(g))
		}
	}
	for _, root := range []int{-1, 0, 1} {
		checkNoReduction(t, p, nil, root)
		checkNoReduction(t, nil, []impl.Cell{}, root)
	}
	checkNoReduction(t, p, numberCells(impl.MaxCells+1), 0)
	checkNoReduction(t, p, indChain(impl.MaxCells), impl.MaxCells)
}

func TestGraphsWithOtherFunctions(t *testing.T) {
	// A function that the program does not have, even where it cannot be reached.
	all := mustProgram(t, "A1=a;B1=a;C1=a;D1=a;E1=a;F1=a;")
	for defs := range allDefs + 1 {
		for f := range allDefs {
			g := []impl.Cell{cell(impl.ExpNum, 1), cell(impl.ExpGlobal, f)}
			for root := range g {
				if f >= defs {
					checkNoReduction(t, all[:defs], g, root)
				} else if !impl.IsValue(all[:defs], g, root) {
					t.Errorf("IsValue(%v, %d) with %d functions", g, root, defs)
				}
			}
		}
	}
}
