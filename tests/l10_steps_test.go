package tests

import (
	"math/rand"
	"slices"
	"testing"

	"loop.example/graphreducer/impl"
)

// redexCase is a graph with the cells that a step can change.
type redexCase struct {
	program, graph string
	redexes        []int
}

var redexCases = []redexCase{
	{"", "", nil},
	{"", "num 1;num 2;add #0 #1;num 1;num 2;add #3 #4;add #2 #5;", []int{2, 5}},
	// What is a value, or only stands for another cell.
	{"A1=a;", "num 1;fun 0;pair #0 #0;ind #2;ind #1;", nil},
	{"", "num 1;add #0 #0;ind #1;ind #2;", []int{1}},
	// Functions without arguments, wherever they are.
	{"A0=1;B1=a;", "fun 0;fun 1;ind #0;fun 0;", []int{0, 3}},
	{"A0=B;B1=a;", "fun 0;num 1;app #0 #1;", []int{0}},
	{"A0=A;", "fun 0;app #0 #0;app #1 #0;fst #0;add #0 #0;", []int{0}},
	// As many applications as the arity, and neither more nor fewer.
	{"A1=a;", "fun 0;app #0 #0;app #1 #0;app #2 #0;", []int{1}},
	{"A2=a;", "fun 0;app #0 #0;app #1 #0;app #2 #0;", []int{2}},
	{"A3=a;", "fun 0;app #0 #0;app #1 #0;app #2 #0;", []int{3}},
	{"A4=a;", "fun 0;app #0 #0;app #1 #0;app #2 #0;", nil},
	{"A4=a;", "fun 0;app #0 #0;app #1 #0;app #2 #0;app #3 #0;app #4 #4;", []int{4}},
	{"A2=a;", "fun 0;app #0 #0;app #1 #0;app #1 #1;app #3 #3;app #1 #4;", []int{2, 3, 5}},
	{"A2=a;", "fun 0;ind #0;app #1 #0;ind #2;ind #3;app #4 #0;ind #5;app #6 #0;", []int{5}},
	{"A1=a;B2=a;", "fun 0;fun 1;app #1 #0;app #0 #1;app #2 #3;app #3 #2;", []int{3, 4}},
	{"A1=a;", "app #1 #0;fun 0;", []int{0}},
	{"A1=a;", "app #1 #2;fun 0;fst #2;", []int{0}},
	// No function in front of the arguments, or none yet.
	{"A1=a;", "num 1;app #0 #0;pair #0 #0;app #2 #0;fst #0;app #4 #0;if #2 #0 #0;app #6 #0;", nil},
	{"A1=a;", "fun 0;pair #0 #0;fst #1;app #2 #0;", []int{2}},
	{"A1=a;", "num 1;fun 0;if #0 #1 #1;app #2 #0;", []int{2}},
	// Applications in a circle.
	{"A1=a;", "app #0 #0;app #2 #2;app #1 #1;app #4 #1;ind #3;app #6 #6;ind #6;fun 0;", nil},
	{"A0=1;", "fun 0;app #1 #1;ind #2;app #2 #2;", []int{0}},
	// Operands that stand for nothing, before a cell of the kind that is asked for or not.
	{"", "num 1;ind #1;add #1 #1;if #1 #0 #0;sub #0 #1;", nil},
	{"", "pair #0 #0;ind #2;ind #1;fst #1;snd #2;", nil},
	// Selections from a pair, whatever its parts are.
	{"", "num 1;pair #0 #0;fst #1;snd #1;ind #1;fst #4;snd #4;", []int{2, 3, 5, 6}},
	{"A1=a;", "num 1;fun 0;fst #0;snd #1;fst #2;snd #6;ind #6;fst #7;", nil},
	{"", "pair #0 #0;fst #0;snd #1;fst #2;", []int{1}},
	{"", "pair #1 #2;fst #0;snd #0;snd #3;fst #3;fst #5;ind #0;fst #6;", []int{1, 2, 7}},
	// Choices by a number, whatever is chosen.
	{"", "num 0;num 999;ind #1;if #0 #3 #3;if #1 #5 #5;fst #5;if #2 #6 #6;", []int{3, 4, 6}},
	{"A1=a;", "pair #0 #0;fun 0;if #0 #3 #3;num 1;if #1 #3 #3;if #5 #3 #3;ind #7;ind #6;if #6 #3 #3;", nil},
	{"", "num 1;if #0 #0 #0;if #1 #0 #0;if #2 #1 #1;", []int{1}},
	// Sums of two numbers.
	{"", "num 1;ind #0;add #0 #0;sub #0 #1;add #1 #0;sub #1 #1;", []int{2, 3, 4, 5}},
	{"", "num 1;pair #0 #0;add #0 #1;add #1 #0;sub #0 #1;sub #1 #0;add #1 #1;sub #1 #1;", nil},
	{"", "num 1;add #0 #0;add #0 #1;add #1 #0;sub #1 #1;sub #5 #0;ind #5;add #0 #6;sub #7 #0;", []int{1}},
	{"A1=a;B0=1;", "num 1;fun 0;add #0 #1;add #1 #0;fun 1;add #4 #0;sub #0 #4;", []int{4}},
}

func TestRedexesOf(t *testing.T) {
	for _, c := range redexCases {
		p, g := mustProgram(t, c.program), graphOf(t, c.graph)
		if list := impl.RedexesOf(p, g); !slices.Equal(list, c.redexes) {
			t.Errorf("RedexesOf(%s, %s) = %v", c.program, c.graph, list)
		}
		checkStepsAt(t, p, g)
	}
}

// checkStepsAt checks the steps of the cells of a graph, but of no more than 60
// since the others are only numbers, and returns how many of them have each code.
func checkStepsAt(t *testing.T, p []impl.Def, g []impl.Cell) [impl.EvalInvalid]int {
	t.Helper()
	var codes [impl.EvalInvalid]int
	for at := range min(len(g), 60) {
		want, wantCode := g, impl.EvalStuck
		if canChangeBy(p, g, at) {
			h, ok := changeBy(p, g, at)
			want, wantCode = h, impl.EvalDone
			if !ok {
				wantCode = impl.EvalLarge
			}
		}
		h, code := impl.StepAt(p, g, at)
		if code != wantCode || !equalGraphs(h, want) {
			t.Fatalf("StepAt(%s, %v, %d) = %v, %d, not %v, %d", impl.FormatProgram(p), g, at, h, code, want, wantCode)
		}
		codes[code]++
	}
	return codes
}

func TestStepAt(t *testing.T) {
	for _, c := range graphSteps {
		p, g := mustProgram(t, c.program), graphOf(t, c.graph)
		h, code := impl.StepAt(p, g, c.redex)
		if code != impl.EvalDone {
			t.Errorf("StepAt(%s, %s, %d) has the code %d", c.program, c.graph, c.redex, code)
		}
		checkGraph(t, c.program+c.graph, h, c.after(t))
		if c.root == c.redex {
			continue
		}
		// The redex is what is changed, not the cell that needs it.
		if h, code := impl.StepAt(p, g, c.root); code != impl.EvalStuck || !equalGraphs(h, g) {
			t.Errorf("StepAt(%s, %s, %d) = %v, %d", c.program, c.graph, c.root, h, code)
		}
	}
}

func TestStepsThatAreNotNeeded(t *testing.T) {
	// The branch that is not chosen, the part that is not selected, an argument, and what no cell has as an operand.
	p := mustProgram(t, "A2=a;")
	for _, c := range []struct {
		graph, after string
		at           int
	}{
		{"num 0;add #0 #0;if #0 #0 #1;", "num 0;num 0;if #0 #0 #1;", 1},
		{"num 5;add #0 #0;pair #0 #1;fst #2;", "num 5;num 10;pair #0 #1;fst #2;", 1},
		{"num 5;add #0 #0;fun 0;app #2 #0;app #3 #1;", "num 5;num 10;fun 0;app #2 #0;app #3 #1;", 1},
		{"num 5;pair #0 #0;snd #1;num 2;", "num 5;pair #0 #0;ind #0;num 2;", 2},
		// A cell that is its own operand can be changed by a step nevertheless.
		{"num 5;if #0 #1 #1;", "num 5;ind #1;", 1},
		{"fun 0;app #0 #2;app #1 #2;", "fun 0;app #0 #2;ind #2;", 2},
	} {
		h, code := impl.StepAt(p, graphOf(t, c.graph), c.at)
		if code != impl.EvalDone {
			t.Errorf("StepAt(%s, %d) has the code %d", c.graph, c.at, code)
		}
		checkGraph(t, c.graph, h, graphOf(t, c.after))
	}
}

func TestStepAtManyCells(t *testing.T) {
	for _, c := range []struct {
		program, graph string
		takes          int
	}{
		{"A0=5;", "fun 0;", 1}, {"A1=a;", "app #1 #1;fun 0;", 0}, {"A1=(a+<a,1>);", "app #1 #1;fun 0;", 3}, {"A2=b;", "app #1 #2;app #2 #2;fun 0;", 0},
		{"", "fst #1;pair #0 #0;", 0}, {"", "if #1 #1 #1;num 1;", 0}, {"", "sub #1 #1;num 1;", 0},
	} {
		p := mustProgram(t, c.program)
		for many := impl.MaxCells - 5; many <= impl.MaxCells; many++ {
			g := padded(graphOf(t, c.graph), many)
			want := [impl.EvalInvalid]int{impl.EvalDone: 1, impl.EvalStuck: 59}
			if many+c.takes > impl.MaxCells {
				want = [impl.EvalInvalid]int{impl.EvalLarge: 1, impl.EvalStuck: 59}
			}
			if codes := checkStepsAt(t, p, g); codes != want {
				t.Errorf("the steps of %s with %d cells have the codes %v", c.graph, many, codes)
			}
			// A cell can be changed even if there is no room for it.
			checkInts(t, impl.RedexesOf(p, g), []int{0})
		}
	}
}

func TestRandomStepsAt(t *testing.T) {
	r := rand.New(rand.NewSource(101))
	var codes [impl.EvalInvalid]int
	kinds := map[int]int{}
	for range 5000 {
		p := randomProgram(r)
		g := mixedGraph(r, p)
		before := cloneGraph(g)
		list := impl.RedexesOf(p, g)
		if want := redexesBy(p, g); !slices.Equal(list, want) {
			t.Fatalf("RedexesOf(%s, %v) = %v, not %v", impl.FormatProgram(p), g, list, want)
		}
		for code, many := range checkStepsAt(t, p, g) {
			codes[code] += many
		}
		for _, at := range list {
			kinds[g[at].Op]++
		}
		if !equalGraphs(g, before) {
			t.Fatal("StepAt changes its argument")
		}
	}
	for _, op := range []int{impl.ExpGlobal, impl.ExpApp, impl.ExpFst, impl.ExpSnd, impl.ExpAdd, impl.ExpSub, impl.ExpIf} {
		if kinds[op] < 300 {
			t.Errorf("%d cells that a step can change are of the kind %d", kinds[op], op)
		}
	}
	if codes[impl.EvalDone] < 3000 || codes[impl.EvalStuck] < 3000 || codes[impl.EvalLarge] < 100 {
		t.Errorf("the numbers of steps with each code are %v", codes)
	}
}

// TestRedexesAreTheirOwn checks that the cells that a step can change are those
// that are changed by a step from themselves.
func TestRedexesAreTheirOwn(t *testing.T) {
	check := func(p []impl.Def, g []impl.Cell) {
		t.Helper()
		var own []int
		for at := range g {
			redex, code := impl.RedexOf(p, g, at)
			if code != impl.EvalDone || impl.IsValue(p, g, at) {
				continue
			}
			if redex == at {
				own = append(own, at)
			}
			h, code := impl.StepGraph(p, g, at)
			k, other := impl.StepAt(p, g, redex)
			if code != other || !equalGraphs(h, k) {
				t.Fatalf("StepGraph(%v, %v, %d) = %v, %d, and StepAt of %d = %v, %d", p, g, at, h, code, redex, k, other)
			}
		}
		if list := impl.RedexesOf(p, g); !slices.Equal(list, own) {
			t.Fatalf("RedexesOf(%v, %v) = %v, but steps from %v change these", p, g, list, own)
		}
	}
	for many := range 4 {
		smallGraphs(many, func(g []impl.Cell) { check(nil, g) })
	}
	r := rand.New(rand.NewSource(102))
	for range 1500 {
		p := randomProgram(r)
		check(p, randomGraph(r, 1+r.Intn(25), len(p), 1+r.Intn(9)))
		check(p, mixedGraph(r, p))
	}
}

// checkNoSteps checks the functions of steps in any order with a program or a
// graph that is not valid.
func checkNoSteps(t *testing.T, p []impl.Def, g []impl.Cell) {
	t.Helper()
	if list := impl.RedexesOf(p, g); len(list) != 0 {
		t.Errorf("RedexesOf(%v, %v) = %v", p, g, list)
	}
	for _, at := range []int{-1, 0, len(g) - 1, len(g)} {
		checkNoStepAt(t, p, g, at)
	}
	for _, script := range [][]int{nil, {}, {0}, {-1}, {0, 1, 2}, make([]int, 40), make([]int, 41)} {
		checkNoPlay(t, p, g, script)
	}
	if h, steps := impl.SparkGraph(p, g); len(h) != 0 || steps != -1 {
		t.Errorf("SparkGraph(%v, %v) = %v, %d", p, g, h, steps)
	}
}

func checkNoStepAt(t *testing.T, p []impl.Def, g []impl.Cell, at int) {
	t.Helper()
	if h, code := impl.StepAt(p, g, at); len(h) != 0 || code != impl.EvalInvalid {
		t.Errorf("StepAt(%v, %v, %d) = %v, %d", p, g, at, h, code)
	}
}

func checkNoPlay(t *testing.T, p []impl.Def, g []impl.Cell, script []int) {
	t.Helper()
	if h, steps := impl.PlayAt(p, g, script); len(h) != 0 || steps != -1 {
		t.Errorf("PlayAt(%v, %v, %v) = %v, %d", p, g, script, h, steps)
	}
}

func TestInvalidStepsInAnyOrder(t *testing.T) {
	p := mustProgram(t, "A1=(a+a);B0=5;")
	for _, text := range []string{"num 1;", "fun 1;num 1;app #0 #1;", "num 1;add #0 #0;", "ind #0;"} {
		g := graphOf(t, text)
		for _, wrong := range wrongPrograms() {
			checkNoSteps(t, wrong, graphOf(t, "num 1;add #0 #0;"))
			checkNoSteps(t, wrong, nil)
		}
		for _, wrong := range wrongCells() {
			checkNoSteps(t, p, append(cloneGraph(g), wrong))
			checkNoSteps(t, p, append([]impl.Cell{wrong}, g...))
		}
		for _, at := range []int{-1, -2, len(g), len(g) + 1, impl.MaxCells, 1<<63 - 1, -1 << 63} {
			checkNoStepAt(t, p, g, at)
		}
		for _, many := range []int{41, 42, 1000} {
			checkNoPlay(t, p, g, make([]int, many))
			checkNoPlay(t, p, g, slices.Repeat([]int{-1}, many))
		}
	}
	checkNoSteps(t, p, numberCells(impl.MaxCells+1))
	checkNoSteps(t, p, indChain(impl.MaxCells))
	checkNoSteps(t, nil, numberCells(100000))
}

func TestStepsWithOtherFunctions(t *testing.T) {
	// A function that the program does not have, even where no step is possible.
	all := mustProgram(t, "A1=a;B1=a;C1=a;D1=a;E1=a;F1=a;")
	for defs := range allDefs + 1 {
		for f := range allDefs {
			g := []impl.Cell{cell(impl.ExpNum, 1), cell(impl.ExpAdd, 0, 0, 0), cell(impl.ExpGlobal, f)}
			if f >= defs {
				checkNoSteps(t, all[:defs], g)
			} else {
				checkInts(t, impl.RedexesOf(all[:defs], g), []int{1})
			}
		}
	}
}

func TestStepsWithoutCells(t *testing.T) {
	// A graph without cells is valid, and there is nothing to do.
	p := mustProgram(t, "A1=a;")
	for _, g := range [][]impl.Cell{nil, {}} {
		if list := impl.RedexesOf(p, g); len(list) != 0 {
			t.Errorf("RedexesOf(%v) = %v", g, list)
		}
		if h, steps := impl.PlayAt(p, g, []int{0, 1, 2}); len(h) != 0 || steps != 0 {
			t.Errorf("PlayAt(%v) = %v, %d", g, h, steps)
		}
		if h, steps := impl.SparkGraph(p, g); len(h) != 0 || steps != 0 {
			t.Errorf("SparkGraph(%v) = %v, %d", g, h, steps)
		}
		for _, at := range []int{-1, 0, 1} {
			checkNoStepAt(t, p, g, at)
		}
	}
}
