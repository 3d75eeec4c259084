package tests

import (
	"testing"

	"loop.example/graphreducer/impl"
)

// runCase is an evaluation with collections, with its code, its number and the
// numbers of its run.
type runCase struct {
	program string
	text    string
	fuel    int
	limit   int
	tidy    bool
	code    int
	number  int
	steps   int
	moved   int
	peak    int
	ticks   int
	rounds  int
}

const (
	// grows has two more cells that are reached after each call, and four that are added.
	grows = "A1=(A <a,<a,a>>);"
	// chunks has more cells that are reached after each turn. Eleven turns need all the cells that there can be.
	chunk  = "<<~0,<0,0>>,<<0,0>,<0,0>>>"
	chunks = "A2=[a?~b:((A (a-1)) <7,<b,<" + chunk + "," + chunk + ">>>)];"
	// doubles calls the next function twice or three times each, and shares nothing.
	doubles = "A1=(B (B a));B1=(C (C (C a)));C1=(D (D (D a)));D1=(E (E (E a)));E1=(F (F (F a)));F1=a;"
	// leaks keeps a pair of which only one part is needed, as long as nothing selects it.
	leaks = "A2=[a?b:((A (a-1)) ^<<<1,<2,3>>,<4,<5,6>>>,b>)];"
)

var runCases = []runCase{
	// No ticks at all for a value, whatever the limit is.
	{"", "5", 0, 0, true, impl.EvalDone, 5, 0, 0, 1, 0, 0},
	{"", "<1,(2 3)>", 9, 0, false, impl.EvalDone, -1, 0, 0, 5, 0, 0},
	{"A1=a;", "A", 9, 0, false, impl.EvalDone, -1, 0, 0, 1, 0, 0},
	{"A2=a;", "(A 1)", 9, 0, true, impl.EvalDone, -1, 0, 0, 3, 0, 0},
	// One tick, with as many cells as the limit and with more.
	{"", "(1+2)", 9, 3, false, impl.EvalDone, 3, 1, 0, 3, 1, 0},
	{"", "(1+2)", 9, 2, false, impl.EvalDone, 3, 1, 3, 3, 1, 1},
	{"", "(1+2)", 1, 0, true, impl.EvalDone, 3, 1, 3, 3, 1, 1},
	{"", "(1-2)", 300, 400, true, impl.EvalDone, 999, 1, 0, 3, 1, 0},
	// No fuel: nothing is collected, and nothing is found to be stuck.
	{"", "(1+2)", 0, 0, true, impl.EvalFuel, 0, 0, 0, 3, 0, 0},
	{"", "(1 2)", 0, 0, true, impl.EvalFuel, 0, 0, 0, 3, 0, 0},
	{"A1=(a+a);", "(A (1+1))", 2, 400, false, impl.EvalFuel, 0, 2, 0, 6, 2, 0},
	{"A1=(a+a);", "(A (1+1))", 3, 400, false, impl.EvalDone, 4, 3, 0, 6, 3, 0},
	{"A1=(a+a);", "(A (1+1))", 3, 0, false, impl.EvalDone, 4, 3, 5 + 4 + 2, 6, 3, 3},
	{"A1=(a+a);", "(A (1+1))", 3, 5, false, impl.EvalDone, 4, 3, 4, 6, 3, 1},
	// A collection that makes the root a value takes a tick, but no step.
	{"", "~<1,2>", 9, 0, true, impl.EvalDone, 1, 0, 1, 4, 1, 1},
	{"", "~<1,2>", 1, 3, true, impl.EvalDone, 1, 0, 1, 4, 1, 1},
	{"", "~<1,2>", 0, 0, true, impl.EvalFuel, 0, 0, 0, 4, 0, 0},
	{"", "~<1,2>", 1, 4, true, impl.EvalDone, 1, 1, 0, 4, 1, 0},
	{"", "~<1,2>", 1, 0, false, impl.EvalDone, 1, 1, 4, 4, 1, 1},
	{"", "~<<1,2>,3>", 1, 0, true, impl.EvalDone, -1, 0, 3, 6, 1, 1},
	{"", "^~<<1,2>,3>", 1, 0, true, impl.EvalDone, 2, 0, 1, 7, 1, 1},
	{"", "^~<<1,2>,3>", 1, 0, false, impl.EvalFuel, 0, 1, 7, 7, 1, 1},
	{"A1=<a,a>;", "~(A 1)", 2, 0, true, impl.EvalDone, 1, 1, 5, 5, 2, 2},
	{"A1=<a,a>;", "~(A 1)", 2, 0, false, impl.EvalDone, 1, 2, 7, 5, 2, 2},
	{"A1=<a,a>;", "~(A 1)", 1, 0, true, impl.EvalFuel, 0, 1, 4, 5, 1, 1},
	{"A1=<a,a>;", "~(A 1)", 2, 4, true, impl.EvalDone, 1, 1, 1, 5, 2, 1},
	// A tick that is stuck counts as well.
	{"", "(1 2)", 9, 3, false, impl.EvalStuck, 0, 0, 0, 3, 1, 0},
	{"", "(1 2)", 9, 2, false, impl.EvalStuck, 0, 0, 3, 3, 1, 1},
	{"", "~(1+2)", 9, 0, true, impl.EvalStuck, 0, 1, 4 + 2, 4, 2, 2},
	{"", "~(1+2)", 1, 0, true, impl.EvalFuel, 0, 1, 4, 4, 1, 1},
	// One without end, in the space of two cells.
	{"A0=A;", "A", 10, 400, false, impl.EvalFuel, 0, 10, 0, 11, 10, 0},
	{"A0=A;", "A", 10, 1, false, impl.EvalFuel, 0, 10, 9, 2, 10, 9},
	{"A0=A;", "A", 300, 0, true, impl.EvalFuel, 0, 300, 300, 2, 300, 300},
	// One that grows until there is no room: the last step is tried before and behind a collection.
	{grows, "(A 1)", 300, 0, false, impl.EvalLarge, 0, 197, 39997, 399, 198, 199},
	{grows, "(A 1)", 300, 0, true, impl.EvalLarge, 0, 197, 39997, 399, 198, 199},
	{grows, "(A 1)", 197, 0, true, impl.EvalFuel, 0, 197, 39997 - 2*397, 399, 197, 197},
	// One that needs all cells, and one that would need more.
	{chunks, "((A 11) <7,0>)", 300, 0, false, impl.EvalDone, 7, 36, 7809, 400, 36, 36},
	{chunks, "((A 11) <7,0>)", 36, 400, false, impl.EvalDone, 7, 36, 690, 400, 36, 2},
	{chunks, "((A 12) <7,0>)", 300, 0, false, impl.EvalLarge, 0, 35, 8239, 400, 36, 37},
	{chunks, "((A 12) <7,0>)", 300, 400, false, impl.EvalLarge, 0, 35, 1083, 400, 36, 3},
}

func TestEvalRun(t *testing.T) {
	for _, c := range runCases {
		p, e := mustProgram(t, c.program), mustExpr(t, c.text)
		x, code := impl.EvalRun(p, e, c.fuel, c.limit, c.tidy)
		want := impl.Run{Graph: x.Graph, Root: x.Root, Steps: c.steps, Moved: c.moved, Peak: c.peak, Ticks: c.ticks, Rounds: c.rounds}
		if code != c.code || !sameRuns(x, want) || !impl.RunValid(p, x) {
			x.Graph = nil
			t.Errorf("EvalRun(%s, %s, %d, %d, %v) has the code %d, and is %v", c.program, c.text, c.fuel, c.limit, c.tidy, code, x)
		}
		// A value that is no number is written as a negative one.
		wantNumber, wantCode := c.number, c.code
		if c.number < 0 {
			wantNumber, wantCode = 0, impl.EvalStuck
		}
		if n, code := impl.NumberRun(p, e, c.fuel, c.limit, c.tidy); n != wantNumber || code != wantCode {
			t.Errorf("NumberRun(%s, %s, %d, %d, %v) = %d, %d", c.program, c.text, c.fuel, c.limit, c.tidy, n, code)
		}
	}
}

func TestGraphsOfRuns(t *testing.T) {
	for _, c := range []struct {
		program string
		text    string
		fuel    int
		limit   int
		tidy    bool
		after   string
		root    int
	}{
		{"", "(1+2)", 9, 3, false, "num 1;num 2;num 3;", 2},
		{"", "(1+2)", 9, 2, false, "num 3;num 1;num 2;", 0},
		{"", "(1+2)", 0, 2, false, "num 1;num 2;add #0 #1;", 2},
		{"", "(1 2)", 1, 2, false, "app #1 #2;num 1;num 2;", 0},
		{"", "~<1,2>", 1, 0, true, "num 1;", 0},
		{"", "~<1,2>", 1, 0, false, "ind #2;pair #2 #3;num 1;num 2;", 0},
		{"A1=(a+a);", "(A (1+1))", 3, 400, false, "fun 0;num 1;num 1;num 2;ind #5;num 4;", 4},
		{"A1=(a+a);", "(A (1+1))", 3, 0, false, "num 4;num 2;", 0},
		{"A1=(a+a);", "(A (1+1))", 2, 0, false, "add #1 #1;num 2;num 1;num 1;", 0},
		{"A1=(a+a);", "(A (1+1))", 3, 5, false, "num 4;num 2;num 1;num 1;", 0},
	} {
		x, _ := impl.EvalRun(mustProgram(t, c.program), mustExpr(t, c.text), c.fuel, c.limit, c.tidy)
		checkGraph(t, "EvalRun of "+c.program+c.text, x.Graph, graphOf(t, c.after))
		if x.Root != c.root {
			t.Errorf("EvalRun(%s, %s) has the root %d", c.program, c.text, x.Root)
		}
	}
}

func TestPeakCells(t *testing.T) {
	for _, c := range []struct {
		program string
		text    string
		fuel    int
		tidy    bool
		peak    int
		code    int
	}{
		{"", "5", 0, false, 1, impl.EvalDone},
		{"", "<1,<2,3>>", 0, true, 5, impl.EvalDone},
		{"", "(1+2)", 0, false, 3, impl.EvalFuel},
		{"", "(1+2)", 1, false, 3, impl.EvalDone},
		{"", "(1 2)", 0, false, 3, impl.EvalFuel},
		{"", "(1 2)", 1, false, 3, impl.EvalStuck},
		{"", "~(1+2)", 300, true, 4, impl.EvalStuck},
		// Even the collection at the beginning can make a value.
		{"", "~<1,2>", 0, false, 4, impl.EvalFuel},
		{"", "~<1,2>", 1, false, 4, impl.EvalDone},
		{"", "~<1,2>", 0, true, 1, impl.EvalDone},
		{"A1=<a,a>;", "~(A 1)", 1, true, 4, impl.EvalDone},
		{"A1=<a,a>;", "~(A 1)", 1, false, 4, impl.EvalFuel},
		// Cells that are not reached behind a step do not count, nor do those that stand for others.
		{"A1=(a+a);", "(A (1+1))", 9, false, 5, impl.EvalDone},
		{"A0=A;", "A", 300, false, 1, impl.EvalFuel},
		{"A0=<1,<2,3>>;", "A", 0, false, 1, impl.EvalFuel},
		{"A0=<1,<2,3>>;", "A", 1, false, 5, impl.EvalDone},
		{"A1=<a,<a,<a,a>>>;", "~(A 1)", 1, false, 5, impl.EvalFuel},
		{"A1=<a,<a,<a,a>>>;", "~(A 1)", 2, false, 5, impl.EvalDone},
		{"A1=<a,<a,<a,a>>>;", "~(A 1)", 1, true, 4, impl.EvalDone},
		{grows, "(A 1)", 196, false, 395, impl.EvalFuel},
		{grows, "(A 1)", 197, true, 397, impl.EvalFuel},
		{grows, "(A 1)", 198, false, 397, impl.EvalLarge},
		{grows, "(A 1)", 300, true, 397, impl.EvalLarge},
		{chunks, "((A 11) <7,0>)", 36, false, 397, impl.EvalDone},
		{chunks, "((A 12) <7,0>)", 300, false, 397, impl.EvalLarge},
		{doubles, "(A 7)", 300, false, 21, impl.EvalDone},
		{"A2=[a?b:((A (a-1)) (b+b))];", "((A 0) 5)", 10, false, 9, impl.EvalDone},
		{"A2=[a?b:((A (a-1)) (b+b))];", "((A 0) 5)", 1, false, 9, impl.EvalFuel},
		{"A2=[a?b:((A (a-1)) (b+b))];", "((A 0) 5)", 0, false, 5, impl.EvalFuel},
	} {
		peak, code := impl.PeakCells(mustProgram(t, c.program), mustExpr(t, c.text), c.fuel, c.tidy)
		if peak != c.peak || code != c.code {
			t.Errorf("PeakCells(%s, %s, %d, %v) = %d, %d", c.program, c.text, c.fuel, c.tidy, peak, code)
		}
	}
}

// checkNoRuns checks the evaluations with collections with arguments that are not valid.
func checkNoRuns(t *testing.T, p []impl.Def, e impl.Expr, fuel int, limit int) {
	t.Helper()
	for _, tidy := range []bool{false, true} {
		x, code := impl.EvalRun(p, e, fuel, limit, tidy)
		checkNoRun(t, "EvalRun", x, code)
		if n, code := impl.NumberRun(p, e, fuel, limit, tidy); n != 0 || code != impl.EvalInvalid {
			t.Errorf("NumberRun(%v, %v, %d, %d) = %d, %d", p, e, fuel, limit, n, code)
		}
	}
}

func checkNoPeak(t *testing.T, p []impl.Def, e impl.Expr, fuel int) {
	t.Helper()
	for _, tidy := range []bool{false, true} {
		if peak, code := impl.PeakCells(p, e, fuel, tidy); peak != 0 || code != impl.EvalInvalid {
			t.Errorf("PeakCells(%v, %v, %d) = %d, %d", p, e, fuel, peak, code)
		}
	}
}

func TestInvalidRuns(t *testing.T) {
	invalidEvaluations(t, func(p []impl.Def, e impl.Expr, fuel int) {
		checkNoRuns(t, p, e, fuel, 100)
		checkNoPeak(t, p, e, fuel)
	})
	p := mustProgram(t, "A2=a;B0=1;")
	for _, text := range []string{"1", "<1,2>", "A", "((A 1) 2)", "(1 2)"} {
		for _, limit := range []int{-1 << 63, -1, impl.MaxCells + 1, 1<<63 - 1} {
			checkNoRuns(t, p, mustExpr(t, text), 10, limit)
		}
	}
}

func TestRunsChangeNoArguments(t *testing.T) {
	const program, text = "A1=<a,(A (a+1))>;", "(~^(A (1+2))+1)"
	p, e := mustProgram(t, program), mustExpr(t, text)
	for _, limit := range []int{0, 7, 400} {
		first, code := impl.EvalRun(p, e, 50, limit, true)
		want := cloneRun(first)
		spoilGraph(first.Graph)
		again, _ := impl.EvalRun(p, e, 50, limit, true)
		checkRun(t, "EvalRun", again, code, want, impl.EvalDone)
		impl.PeakCells(p, e, 50, true)
		if n, code := impl.NumberRun(p, e, 50, limit, false); n != 5 || code != impl.EvalDone {
			t.Errorf("NumberRun = %d, %d", n, code)
		}
		start, _ := impl.StartRun(p, e)
		spoilGraph(start.Graph)
		if !samePrograms(p, mustProgram(t, program)) || !equal(e, mustExpr(t, text)) {
			t.Error("a run changes its arguments")
		}
	}
}
