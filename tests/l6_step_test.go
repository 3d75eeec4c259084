package tests

import (
	"math/rand"
	"testing"

	"loop.example/graphreducer/impl"
)

func TestStartRun(t *testing.T) {
	p := mustProgram(t, "A1=(a+a);B0=5;")
	for _, c := range []struct{ text, graph string }{
		{"7", "num 7;"},
		{"B", "fun 1;"},
		{"A", "fun 0;"},
		{"(A (1+1))", "fun 0;num 1;num 1;add #1 #2;app #0 #3;"},
		{"[1?<2,B>:~3]", "num 1;num 2;fun 1;pair #1 #2;num 3;fst #4;if #0 #3 #5;"},
		{"(1 2)", "num 1;num 2;app #0 #1;"},
	} {
		x, ok := impl.StartRun(p, mustExpr(t, c.text))
		if !ok {
			t.Errorf("StartRun(%s) is false", c.text)
		}
		g := graphOf(t, c.graph)
		checkRun(t, "StartRun of "+c.text, x, impl.EvalDone, impl.Run{Graph: g, Root: len(g) - 1, Peak: len(g)}, impl.EvalDone)
		if !impl.RunValid(p, x) {
			t.Errorf("StartRun(%s) is not valid", c.text)
		}
	}
	for _, e := range []impl.Expr{fullTree(59), chain(1, fullTree(59)), chain(15, number(1))} {
		x, ok := impl.StartRun(nil, e)
		if !ok || len(x.Graph) != impl.SizeOf(e) || x.Peak != len(x.Graph) || x.Root != len(x.Graph)-1 {
			t.Errorf("StartRun has %d cells, the root %d and %d as Peak, and is %v", len(x.Graph), x.Root, x.Peak, ok)
		}
	}
}

func checkNoStart(t *testing.T, p []impl.Def, e impl.Expr) {
	t.Helper()
	if x, ok := impl.StartRun(p, e); ok || !sameRuns(x, impl.Run{}) {
		t.Errorf("StartRun(%v, %v) = %v, %v", p, e, x, ok)
	}
}

func TestInvalidStarts(t *testing.T) {
	p := mustProgram(t, "A2=a;B0=1;")
	for _, text := range []string{"a", "(a 1)", "<1,b>", "C", "F", "<1,C>", "((A 1) C)"} {
		checkNoStart(t, p, mustExpr(t, text))
	}
	for _, wrong := range tooLargeExprs() {
		checkNoStart(t, p, wrong)
		checkNoStart(t, p, node(impl.ExpPair, 0, number(1), wrong))
	}
	for _, wrong := range wrongPrograms() {
		checkNoStart(t, wrong, number(1))
	}
	checkNoStart(t, nil, global(0))
}

// countOf is a number of a run, with the greatest ones in a valid run and in
// one that can make a tick.
type countOf struct {
	name string
	of   func(x *impl.Run) *int
	most int
	tick int
}

var counts = []countOf{
	{"Steps", func(x *impl.Run) *int { return &x.Steps }, 1000, 900},
	{"Rounds", func(x *impl.Run) *int { return &x.Rounds }, 1000, 900},
	{"Moved", func(x *impl.Run) *int { return &x.Moved }, 1000000, 900000},
	{"Ticks", func(x *impl.Run) *int { return &x.Ticks }, 1000, 1000},
	{"Peak", func(x *impl.Run) *int { return &x.Peak }, impl.MaxCells, impl.MaxCells},
}

func TestCountsOfRuns(t *testing.T) {
	p := mustProgram(t, "A1=(a+a);")
	for _, graph := range []string{"num 1;fun 0;app #1 #0;", "num 1;num 2;num 3;"} {
		for _, c := range counts {
			for _, n := range []int{-1 << 63, -1, 0, 1, c.tick, c.tick + 1, c.most, c.most + 1, 1<<63 - 1} {
				x := runAt(graphOf(t, graph), 2)
				*c.of(&x) = n
				if valid := impl.RunValid(p, x); valid != (0 <= n && n <= c.most) {
					t.Errorf("RunValid with %s %d is %v", c.name, n, valid)
				}
				y, code := impl.StepRun(p, x, 3, false)
				if 0 <= n && n <= c.tick {
					want, _ := tickBy(nil, p, x, 3, false)
					checkRun(t, "StepRun with "+c.name, y, code, want, impl.EvalDone)
				} else {
					checkNoRun(t, "StepRun with "+c.name, y, code)
				}
			}
		}
	}
	// All of them at once, also with a collection.
	x := runAt(graphOf(t, "num 1;fun 0;app #1 #0;"), 2)
	for _, c := range counts {
		*c.of(&x) = c.tick
	}
	y, code := impl.StepRun(p, x, 0, true)
	want := impl.Run{Graph: graphOf(t, "ind #3;fun 0;num 1;add #2 #2;"), Steps: 901, Moved: 900003, Peak: 400, Ticks: 1000, Rounds: 901}
	checkRun(t, "StepRun", y, code, want, impl.EvalDone)
	if !impl.RunValid(p, y) {
		t.Errorf("%v is not valid", y)
	}
}

// checkWrongRun checks that a run is not valid.
func checkWrongRun(t *testing.T, p []impl.Def, x impl.Run) {
	t.Helper()
	if impl.RunValid(p, x) {
		t.Errorf("RunValid(%v, %v) is true", p, x)
	}
	for _, tidy := range []bool{false, true} {
		y, code := impl.StepRun(p, x, impl.MaxCells, tidy)
		checkNoRun(t, "StepRun", y, code)
	}
}

func TestWrongRuns(t *testing.T) {
	p := mustProgram(t, "A1=(a+a);")
	g := graphOf(t, "num 1;fun 0;app #1 #0;")
	for _, root := range []int{-1 << 63, -1, 3, impl.MaxCells, 1<<63 - 1} {
		checkWrongRun(t, p, impl.Run{Graph: g, Root: root})
	}
	checkWrongRun(t, p, impl.Run{})
	checkWrongRun(t, nil, impl.Run{})
	checkWrongRun(t, p, impl.Run{Graph: numberCells(impl.MaxCells + 1)})
	if !impl.RunValid(p, runAt(numberCells(impl.MaxCells), 399)) {
		t.Error("a run with as many cells as there can be is not valid")
	}
	// A function that is not in the program, even where it is not reached.
	checkWrongRun(t, nil, impl.Run{Graph: g})
	checkWrongRun(t, p, impl.Run{Graph: graphOf(t, "num 1;fun 1;")})
	for _, wrong := range wrongPrograms() {
		checkWrongRun(t, wrong, impl.Run{Graph: numberCells(1)})
	}
	for _, wrong := range wrongCells() {
		checkWrongRun(t, mustProgram(t, "A0=1;B0=1;C0=1;D0=1;E0=1;F0=1;"), impl.Run{Graph: append(numberCells(3), wrong)})
	}
	for _, limit := range []int{-1 << 63, -1, impl.MaxCells + 1, 1<<63 - 1} {
		for root := range g {
			x, code := impl.StepRun(p, runAt(g, root), limit, root == 0)
			checkNoRun(t, "StepRun", x, code)
		}
	}
}

// tickCase is a run at its beginning, and what it is after a tick.
type tickCase struct {
	program string
	graph   string
	root    int
	limit   int
	tidy    bool
	after   string
	top     int
	code    int
	steps   int
	moved   int
	peak    int
	rounds  int
}

const oneCall = "fun 0;num 1;num 1;add #1 #2;app #0 #3;"

var tickCases = []tickCase{
	// As many cells as the limit are not too many.
	{"A1=(a+a);", oneCall, 4, 400, false, "fun 0;num 1;num 1;add #1 #2;ind #5;add #3 #3;", 4, impl.EvalDone, 1, 0, 6, 0},
	{"A1=(a+a);", oneCall, 4, 5, false, "fun 0;num 1;num 1;add #1 #2;ind #5;add #3 #3;", 4, impl.EvalDone, 1, 0, 6, 0},
	{"A1=(a+a);", oneCall, 4, 4, false, "ind #5;fun 0;add #3 #4;num 1;num 1;add #2 #2;", 0, impl.EvalDone, 1, 5, 6, 1},
	{"A1=(a+a);", oneCall, 4, 0, true, "ind #5;fun 0;add #3 #4;num 1;num 1;add #2 #2;", 0, impl.EvalDone, 1, 5, 6, 1},
	// The collection leaves out what is not reached, and cells that stand for others; Peak does not become smaller.
	{"", "num 1;num 2;num 3;ind #0;add #3 #1;", 4, 4, false, "num 3;num 1;num 2;", 0, impl.EvalDone, 1, 3, 5, 1},
	{"", "num 1;num 2;num 3;ind #0;add #3 #1;", 4, 5, false, "num 1;num 2;num 3;ind #0;num 3;", 4, impl.EvalDone, 1, 0, 5, 0},
	{"", "num 1;add #0 #0;ind #1;", 2, 2, false, "num 2;num 1;", 0, impl.EvalDone, 1, 2, 3, 1},
	// The limit may be exceeded by a step.
	{"A1=(a+a);", oneCall, 3, 3, false, "num 2;num 1;num 1;", 0, impl.EvalDone, 1, 3, 5, 1},
	{"A0=<1,<2,3>>;", "fun 0;", 0, 1, false, "ind #5;num 1;num 2;num 3;pair #2 #3;pair #1 #4;", 0, impl.EvalDone, 1, 0, 6, 0},
	{"A0=<1,<2,3>>;", "fun 0;", 0, 0, false, "ind #5;num 1;num 2;num 3;pair #2 #3;pair #1 #4;", 0, impl.EvalDone, 1, 1, 6, 1},
	// A collection that makes the root a value is all; one that does not tidy makes none.
	{"", "num 1;num 2;pair #0 #1;fst #2;", 3, 3, true, "num 1;", 0, impl.EvalDone, 0, 1, 4, 1},
	{"", "num 1;num 2;pair #0 #1;fst #2;", 3, 0, true, "num 1;", 0, impl.EvalDone, 0, 1, 4, 1},
	{"", "num 1;num 2;pair #0 #1;fst #2;", 3, 4, true, "num 1;num 2;pair #0 #1;ind #0;", 3, impl.EvalDone, 1, 0, 4, 0},
	{"", "num 1;num 2;pair #0 #1;fst #2;", 3, 3, false, "ind #2;pair #2 #3;num 1;num 2;", 0, impl.EvalDone, 1, 4, 4, 1},
	{"A2=a;", "fun 0;num 1;pair #0 #1;fst #2;num 2;app #3 #4;", 5, 5, true, "app #1 #2;fun 0;num 2;", 0, impl.EvalDone, 0, 3, 6, 1},
	{"", "num 1;pair #0 #0;pair #0 #1;snd #2;", 3, 0, true, "pair #1 #1;num 1;", 0, impl.EvalDone, 0, 2, 4, 1},
	{"", "num 1;pair #0 #0;pair #1 #0;fst #2;snd #3;ind #4;", 5, 0, true, "num 1;", 0, impl.EvalDone, 0, 1, 6, 1},
	// One that tidies and makes the root no value is followed by a step, which can be another one than before.
	{"", "num 1;num 2;pair #0 #1;fst #2;add #3 #3;", 4, 4, true, "num 2;num 1;", 0, impl.EvalDone, 1, 2, 5, 1},
	{"", "num 1;num 2;pair #0 #1;fst #2;add #3 #3;", 4, 4, false, "add #1 #1;ind #3;pair #3 #4;num 1;num 2;", 0, impl.EvalDone, 1, 5, 5, 1},
	// Nothing is done if the root stands for a value, whatever the limit is.
	{"", "num 1;num 2;num 3;", 1, 0, true, "num 1;num 2;num 3;", 1, impl.EvalDone, 0, 0, 3, 0},
	{"A1=a;", "num 1;fun 0;ind #1;", 2, 0, false, "num 1;fun 0;ind #1;", 2, impl.EvalDone, 0, 0, 3, 0},
	{"A2=a;", "fun 0;app #0 #1;ind #1;", 2, 0, true, "fun 0;app #0 #1;ind #1;", 2, impl.EvalDone, 0, 0, 3, 0},
	// What was done before a step that is stuck remains.
	{"", "num 1;num 2;app #0 #1;", 2, 3, false, "num 1;num 2;app #0 #1;", 2, impl.EvalStuck, 0, 0, 3, 0},
	{"", "num 1;num 2;app #0 #1;", 2, 2, false, "app #1 #2;num 1;num 2;", 0, impl.EvalStuck, 0, 3, 3, 1},
	{"", "num 1;ind #0;fst #1;", 2, 0, true, "fst #1;num 1;", 0, impl.EvalStuck, 0, 2, 3, 1},
	{"", "ind #1;ind #0;", 0, 0, true, "ind #1;ind #0;", 0, impl.EvalStuck, 0, 2, 2, 1},
	{"", "pair #1 #1;fst #0;", 1, 0, true, "ind #0;", 0, impl.EvalStuck, 0, 1, 2, 1},
	{"", "pair #1 #1;fst #0;", 1, 0, false, "ind #0;pair #0 #0;", 0, impl.EvalDone, 1, 2, 2, 1},
}

func TestStepRun(t *testing.T) {
	for _, c := range tickCases {
		x := runAt(graphOf(t, c.graph), c.root)
		before := cloneRun(x)
		y, code := impl.StepRun(mustProgram(t, c.program), x, c.limit, c.tidy)
		want := impl.Run{Graph: graphOf(t, c.after), Root: c.top, Steps: c.steps, Moved: c.moved, Peak: c.peak, Rounds: c.rounds}
		checkRun(t, "StepRun of "+c.program+c.graph, y, code, want, c.code)
		spoilGraph(y.Graph)
		if !sameRuns(x, before) {
			t.Errorf("StepRun of %s%s changes the run", c.program, c.graph)
		}
	}
}

// TestTicksAreCounts checks that a tick adds to the counts of a run, and leaves Ticks as it is.
func TestTicksAreCounts(t *testing.T) {
	p := mustProgram(t, "A1=(a+a);")
	x := impl.Run{Graph: graphOf(t, oneCall), Root: 4, Steps: 5, Moved: 60, Peak: 7, Ticks: 8, Rounds: 9}
	y, code := impl.StepRun(p, x, 4, false)
	want := impl.Run{Graph: graphOf(t, "ind #5;fun 0;add #3 #4;num 1;num 1;add #2 #2;"), Steps: 6, Moved: 65, Peak: 7, Ticks: 8, Rounds: 10}
	checkRun(t, "StepRun", y, code, want, impl.EvalDone)
	// Peak is counted after a step only.
	x.Peak = 2
	y, code = impl.StepRun(p, x, 4, false)
	want.Peak = 6
	checkRun(t, "StepRun", y, code, want, impl.EvalDone)
	x.Root = 1
	y, code = impl.StepRun(p, x, 4, false)
	checkRun(t, "StepRun of a value", y, code, x, impl.EvalDone)
	x = impl.Run{Graph: graphOf(t, "num 1;num 2;app #0 #1;"), Root: 2, Steps: 5, Moved: 60, Peak: 2, Ticks: 8, Rounds: 9}
	y, code = impl.StepRun(p, x, 2, false)
	want = impl.Run{Graph: graphOf(t, "app #1 #2;num 1;num 2;"), Steps: 5, Moved: 63, Peak: 2, Ticks: 8, Rounds: 10}
	checkRun(t, "StepRun that is stuck", y, code, want, impl.EvalStuck)
}

// TestTicksWithoutRoom checks calls for which there is room only after a collection, or not even then.
func TestTicksWithoutRoom(t *testing.T) {
	p := mustProgram(t, "A1=(a+a);")
	r := rand.New(rand.NewSource(71))
	for _, c := range []struct {
		live   int
		all    int
		limit  int
		code   int
		steps  int
		rounds int
	}{
		{3, 399, 400, impl.EvalDone, 1, 0},
		{3, 400, 400, impl.EvalDone, 1, 1},
		{3, 400, 399, impl.EvalDone, 1, 1},
		{3, 400, 0, impl.EvalDone, 1, 1},
		// All cells are needed after the step.
		{399, 399, 400, impl.EvalDone, 1, 0},
		{399, 399, 399, impl.EvalDone, 1, 0},
		{399, 399, 398, impl.EvalDone, 1, 1},
		{399, 399, 0, impl.EvalDone, 1, 1},
		{399, 400, 400, impl.EvalDone, 1, 1},
		{399, 400, 399, impl.EvalDone, 1, 1},
		// One more would be needed: there is a collection even if there was one before.
		{400, 400, 400, impl.EvalLarge, 0, 1},
		{400, 400, 399, impl.EvalLarge, 0, 2},
		{400, 400, 0, impl.EvalLarge, 0, 2},
	} {
		g := padded(heldCells(c.live), c.all)
		for _, tidy := range []bool{false, true} {
			x, code := impl.StepRun(p, runAt(g, c.live-1), c.limit, tidy)
			want, wantCode := tickBy(r, p, runAt(g, c.live-1), c.limit, tidy)
			checkRun(t, "StepRun", x, code, want, wantCode)
			if code != c.code || x.Steps != c.steps || x.Rounds != c.rounds || x.Moved != c.rounds*c.live {
				t.Errorf("StepRun(%v) has the code %d and %d steps, and moves %d in %d rounds", c, code, x.Steps, x.Moved, x.Rounds)
			}
			if cells := c.live + c.steps; c.rounds > 0 && len(x.Graph) != cells {
				t.Errorf("StepRun(%v) has %d cells", c, len(x.Graph))
			}
			if x.Peak != max(c.all, len(x.Graph)) {
				t.Errorf("StepRun(%v) has %d as Peak", c, x.Peak)
			}
		}
	}
}

// TestRoomByTidying checks a call for which there is room only without a selection from a pair.
func TestRoomByTidying(t *testing.T) {
	p := mustProgram(t, "A1=(a+a);")
	g := []impl.Cell{cell(impl.ExpGlobal, 0), cell(impl.ExpNum, 7)}
	for len(g) < impl.MaxCells-3 {
		g = append(g, cell(impl.ExpPair, 0, len(g)-1, len(g)-1))
	}
	last := len(g)
	g = append(g, cell(impl.ExpPair, 0, 1, last-1), cell(impl.ExpFst, 0, last), cell(impl.ExpApp, 0, 0, last+1))
	x, code := impl.StepRun(p, runAt(g, last+2), 400, false)
	if code != impl.EvalLarge || x.Steps != 0 || x.Rounds != 1 || x.Moved != 400 || x.Root != 0 || len(x.Graph) != 400 || x.Peak != 400 {
		t.Errorf("StepRun has the code %d, and %d steps", code, x.Steps)
	}
	x, code = impl.StepRun(p, runAt(g, last+2), 400, true)
	want := impl.Run{Graph: graphOf(t, "ind #3;fun 0;num 7;add #2 #2;"), Steps: 1, Moved: 3, Peak: 400, Rounds: 1}
	checkRun(t, "StepRun", x, code, want, impl.EvalDone)
}

func TestRandomTicks(t *testing.T) {
	r := rand.New(rand.NewSource(72))
	var codes [impl.EvalInvalid]int
	rounds, values := map[int]int{}, 0
	for range 4000 {
		p := randomProgram(r)
		g := mixedGraph(r, p)
		x := impl.Run{Graph: g, Root: someWork(r, p, g), Steps: r.Intn(901), Moved: r.Intn(900001), Peak: r.Intn(401), Ticks: r.Intn(1001), Rounds: r.Intn(901)}
		before := cloneRun(x)
		limit, tidy := someLimit(r), r.Intn(2) == 0
		want, wantCode := tickBy(r, p, x, limit, tidy)
		y, code := impl.StepRun(p, x, limit, tidy)
		checkRun(t, "StepRun of "+impl.FormatProgram(p)+impl.FormatGraph(g), y, code, want, wantCode)
		codes[code]++
		rounds[y.Rounds-x.Rounds]++
		if y.Rounds > x.Rounds && y.Steps == x.Steps && code == impl.EvalDone {
			values++
		}
		spoilGraph(y.Graph)
		if !sameRuns(x, before) {
			t.Fatalf("StepRun changes the run to %v", x)
		}
	}
	if codes[impl.EvalDone] < 1000 || codes[impl.EvalStuck] < 300 || rounds[0] < 500 || rounds[1] < 500 || values < 30 {
		t.Errorf("the numbers of ticks with each code are %v, with each number of rounds %v, and %d make a value without a step", codes, rounds, values)
	}
}
