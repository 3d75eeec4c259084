package tests

import (
	"math/rand"
	"slices"
	"testing"

	"loop.example/graphreducer/impl"
)

// playCase is a graph with steps of it, how many of them are made, and the graph after them.
type playCase struct {
	program, graph string
	script         []int
	steps          int
	after          string
}

const threeSums = "num 1;num 2;add #0 #0;add #1 #1;add #2 #3;"

var playCases = []playCase{
	// The cell with an index among those that a step can change, modulo their number.
	{"", threeSums, nil, 0, threeSums},
	{"", threeSums, []int{0}, 1, "num 1;num 2;num 2;add #1 #1;add #2 #3;"},
	{"", threeSums, []int{1}, 1, "num 1;num 2;add #0 #0;num 4;add #2 #3;"},
	{"", threeSums, []int{2}, 1, "num 1;num 2;num 2;add #1 #1;add #2 #3;"},
	{"", threeSums, []int{3}, 1, "num 1;num 2;add #0 #0;num 4;add #2 #3;"},
	{"", threeSums, []int{1<<63 - 1}, 1, "num 1;num 2;add #0 #0;num 4;add #2 #3;"},
	{"", threeSums, []int{1, 1}, 2, "num 1;num 2;num 2;num 4;add #2 #3;"},
	// They are found anew before each step: a cell can be changed after a step of another one.
	{"", threeSums, []int{0, 0, 0}, 3, "num 1;num 2;num 2;num 4;num 6;"},
	{"", threeSums, []int{5, 5, 5, 5, 5}, 3, "num 1;num 2;num 2;num 4;num 6;"},
	{"", "num 1;add #0 #0;add #1 #0;add #2 #0;", []int{0, 0}, 2, "num 1;num 2;num 3;add #2 #0;"},
	{"A1=(a+a);", "fun 0;num 1;app #0 #1;num 5;", []int{0, 0, 0}, 2, "fun 0;num 1;ind #4;num 5;num 2;"},
	{"A0=B;B1=a;", "fun 0;num 1;app #0 #1;", []int{3, 2}, 2, "ind #3;num 1;ind #1;fun 1;"},
	{"", "num 1;pair #2 #0;pair #0 #0;fst #1;snd #3;", []int{0, 0}, 2, "num 1;pair #2 #0;pair #0 #0;ind #2;ind #0;"},
	{"", "num 1;add #0 #0;if #1 #1 #0;", []int{0, 0, 0}, 2, "num 1;num 2;ind #0;"},
	// Elements that are negative are left out.
	{"", threeSums, []int{-1, -2, -1 << 63}, 0, threeSums},
	{"", threeSums, []int{-1, 1, -1, -3}, 1, "num 1;num 2;add #0 #0;num 4;add #2 #3;"},
	// There are no cells that a step can change.
	{"A1=a;", "num 1;fun 0;pair #0 #1;ind #2;", []int{0, 1, 2}, 0, "num 1;fun 0;pair #0 #1;ind #2;"},
	{"", "add #0 #0;ind #1;fst #2;", []int{0, 0}, 0, "add #0 #0;ind #1;fst #2;"},
	// A step that goes on forever beside one that is needed.
	{"A0=(A 1);", "fun 0;num 1;add #1 #1;", []int{0, 1, 0}, 3, "ind #5;num 1;num 2;ind #8;num 1;app #3 #4;fun 0;num 1;app #6 #7;"},
	{"A0=A;", "fun 0;num 1;add #1 #1;", []int{0, 1, 1, 0}, 4, "ind #3;num 1;num 2;ind #4;ind #5;fun 0;"},
	// A cell that stands for itself afterwards.
	{"A1=a;", "fun 0;app #0 #1;fst #1;", []int{0, 0}, 1, "fun 0;ind #1;fst #1;"},
}

// checkPlay checks PlayAt.
func checkPlay(t *testing.T, p []impl.Def, g []impl.Cell, script []int) int {
	t.Helper()
	want, wantSteps := playBy(p, g, script)
	h, steps := impl.PlayAt(p, g, script)
	if steps != wantSteps || !equalGraphs(h, want) || !impl.GraphValid(h, len(p)) {
		t.Fatalf("PlayAt(%s, %v, %v) = %v, %d, not %v, %d", impl.FormatProgram(p), g, script, h, steps, want, wantSteps)
	}
	return steps
}

// checkSpark checks SparkGraph.
func checkSpark(t *testing.T, p []impl.Def, g []impl.Cell) int {
	t.Helper()
	want, wantSteps := sparkBy(p, g)
	h, steps := impl.SparkGraph(p, g)
	if steps != wantSteps || !equalGraphs(h, want) || !impl.GraphValid(h, len(p)) {
		t.Fatalf("SparkGraph(%s, %v) = %v, %d, not %v, %d", impl.FormatProgram(p), g, h, steps, want, wantSteps)
	}
	return steps
}

func TestPlayAt(t *testing.T) {
	for _, c := range playCases {
		p, g := mustProgram(t, c.program), graphOf(t, c.graph)
		script := append(slices.Clone(c.script), 0)
		h, steps := impl.PlayAt(p, g, script[:len(c.script)])
		if steps != c.steps {
			t.Errorf("PlayAt(%s, %s, %v) makes %d steps", c.program, c.graph, c.script, steps)
		}
		checkGraph(t, c.program+c.graph, h, graphOf(t, c.after))
		checkInts(t, script, append(slices.Clone(c.script), 0))
	}
}

func TestPlayWithoutRoom(t *testing.T) {
	// A step without room is left out, and so are only those; the others follow.
	p := mustProgram(t, "A1=(a+1);B0=<B,1>;")
	g := padded(graphOf(t, "num 5;fun 0;app #1 #0;add #0 #0;fun 1;sub #3 #0;"), impl.MaxCells-1)
	for _, c := range []struct {
		script []int
		steps  int
		after  map[int]impl.Cell
	}{
		{[]int{0}, 0, nil},
		{[]int{2}, 0, nil},
		{[]int{0, 1}, 1, map[int]impl.Cell{3: cell(impl.ExpNum, 10)}},
		{[]int{0, 1, 0, 2, 1}, 2, map[int]impl.Cell{3: cell(impl.ExpNum, 10), 5: cell(impl.ExpNum, 5)}},
		{[]int{2, 0, 1, -1, 2, 0, 1, 0, 1, 0, 1}, 2, map[int]impl.Cell{3: cell(impl.ExpNum, 10), 5: cell(impl.ExpNum, 5)}},
	} {
		want := cloneGraph(g)
		for at, to := range c.after {
			want[at] = to
		}
		h, steps := impl.PlayAt(p, g, c.script)
		if steps != c.steps {
			t.Errorf("PlayAt(%v) makes %d steps", c.script, steps)
		}
		checkGraph(t, "PlayAt", h, want)
	}
	// The same with room for one call.
	g = g[:impl.MaxCells-2]
	for _, script := range [][]int{{0, 0, 0, 0}, {2, 2, 2, 2}, {0, 2, 1, 0, 2, 1, 0}} {
		checkPlay(t, p, g, script)
	}
}

func TestLongPlays(t *testing.T) {
	// One step behind the other, and at most as many as the script has elements.
	g := graphOf(t, "num 1;")
	for at := range 60 {
		g = append(g, cell(impl.ExpAdd, 0, at, 0))
	}
	for many := range 41 {
		h, steps := impl.PlayAt(nil, g, make([]int, many))
		if steps != many || len(impl.RedexesOf(nil, h)) != 1 || h[many].N != many+1 || h[many+1].Op != impl.ExpAdd {
			t.Errorf("PlayAt makes %d steps of %d", steps, many)
		}
		checkNoPlay(t, nil, g, make([]int, 41+many))
	}
	// A step that goes on forever until there is no room. In the end, the call
	// without room stands before the sum of the call before it.
	p := mustProgram(t, "A0=(A <1,(2+3)>);")
	h := graphOf(t, "fun 0;")
	calls, sums := (impl.MaxCells-1)/7, (impl.MaxCells-1)/7-1
	all := 0
	for range 20 {
		k, steps := impl.PlayAt(p, h, make([]int, 40))
		h, all = k, all+steps
	}
	if len(h) != 1+7*calls || all != calls+sums {
		t.Errorf("there are %d cells after %d steps", len(h), all)
	}
}

var sparkCases = []playCase{
	{"", "", nil, 0, ""},
	{"", "num 1;add #1 #0;", nil, 0, "num 1;add #1 #0;"},
	// All at once, but not what can be changed only after them.
	{"", threeSums, nil, 2, "num 1;num 2;num 2;num 4;add #2 #3;"},
	{"", "num 1;add #0 #0;add #1 #0;add #2 #0;", nil, 1, "num 1;num 2;add #1 #0;add #2 #0;"},
	{"", "add #1 #1;add #2 #2;num 1;", nil, 1, "add #1 #1;num 2;num 1;"},
	{"A1=(a+a);", "fun 0;num 1;app #0 #1;num 5;", nil, 1, "fun 0;num 1;ind #4;num 5;add #1 #1;"},
	{"A0=B;B1=a;", "fun 0;num 1;app #0 #1;", nil, 1, "ind #3;num 1;app #0 #1;fun 1;"},
	{"", "num 1;pair #2 #0;pair #0 #0;fst #1;snd #3;", nil, 1, "num 1;pair #2 #0;pair #0 #0;ind #2;snd #3;"},
	// Each kind, and each function with cells of its own, in order.
	{"A1=<a,(a 1)>;B0=<2,3>;C2=b;", "num 7;fun 0;app #1 #0;fun 1;ind #1;app #4 #3;fun 2;app #6 #2;app #7 #5;fun 1;", nil, 5,
		"num 7;fun 0;ind #12;ind #15;ind #1;ind #18;fun 2;app #6 #2;ind #5;ind #21;num 1;app #0 #10;pair #0 #11;num 2;num 3;pair #13 #14;num 1;app #3 #16;pair #3 #17;num 2;num 3;pair #19 #20;"},
	{"", "num 1;pair #0 #1;fst #1;snd #1;if #0 #2 #3;add #0 #0;sub #0 #0;ind #5;", nil, 5, "num 1;pair #0 #1;ind #0;ind #1;ind #3;num 2;num 0;ind #5;"},
	// Cells that are operands of each other.
	{"", "pair #1 #2;fst #0;snd #0;", nil, 2, "pair #1 #2;ind #1;ind #2;"},
	{"A1=<a,a>;", "fun 0;app #0 #2;app #0 #1;", nil, 2, "fun 0;ind #3;ind #4;pair #2 #2;pair #1 #1;"},
	{"A1=a;", "fun 0;app #0 #2;app #0 #1;", nil, 2, "fun 0;ind #2;ind #1;"},
	{"A2=<b,a>;", "fun 0;app #0 #2;app #1 #2;app #1 #3;", nil, 2, "fun 0;app #0 #2;ind #4;ind #5;pair #2 #2;pair #3 #2;"},
}

func TestSparkGraph(t *testing.T) {
	for _, c := range sparkCases {
		p, g := mustProgram(t, c.program), graphOf(t, c.graph)
		h, steps := impl.SparkGraph(p, g)
		if steps != c.steps {
			t.Errorf("SparkGraph(%s, %s) makes %d steps", c.program, c.graph, steps)
		}
		checkGraph(t, c.program+c.graph, h, graphOf(t, c.after))
	}
}

func TestSparksWithoutRoom(t *testing.T) {
	// A step without room is left out, also where one before it has taken the room; smaller ones follow.
	p := mustProgram(t, "A1=<a,<a,a>>;B1=<a,a>;C1=a;")
	sparks := "fun 0;fun 1;fun 2;app #1 #0;app #0 #0;app #1 #1;app #0 #1;app #2 #0;add #9 #9;num 4;"
	for _, c := range []struct{ free, steps, added int }{{0, 2, 0}, {1, 3, 1}, {2, 4, 2}, {3, 4, 3}, {4, 5, 4}, {5, 5, 4}, {6, 6, 6}, {7, 6, 6}} {
		g := padded(graphOf(t, sparks), impl.MaxCells-c.free)
		h, steps := impl.SparkGraph(p, g)
		if steps != c.steps || len(h) != len(g)+c.added {
			t.Errorf("SparkGraph makes %d steps and has %d cells with room for %d", steps, len(h), c.free)
		}
		checkSpark(t, p, g)
		// What is left has no room later, either.
		if again, steps := impl.SparkGraph(p, h); c.free == c.added && (steps != 0 || !equalGraphs(again, h)) {
			t.Errorf("SparkGraph makes %d steps without room", steps)
		}
	}
}

func TestManySparks(t *testing.T) {
	p := mustProgram(t, "A0=A;B1=a;")
	for many := range impl.MaxCells + 1 {
		if many > 3 && many%57 != 0 && many < impl.MaxCells-2 {
			continue
		}
		g := make([]impl.Cell, many)
		for at := range g {
			g[at] = cell(impl.ExpGlobal, 0)
		}
		h, steps := impl.SparkGraph(p, g)
		if want := min(many, impl.MaxCells-many); steps != want || len(h) != many+want {
			t.Errorf("SparkGraph of %d cells makes %d steps, and has %d cells", many, steps, len(h))
		}
		for at, c := range h {
			if c.Op == impl.ExpInd && c.Kids[0] != at+many {
				t.Errorf("SparkGraph of %d cells has the cell %v", many, c)
			}
		}
		g = append(numberCells(1), cell(impl.ExpGlobal, 1))
		for len(g) < many {
			g = append(g, cell(impl.ExpApp, 0, 1, 0))
		}
		if h, steps := impl.SparkGraph(p, g); steps != len(g)-2 || len(h) != len(g) {
			t.Errorf("SparkGraph of %d calls makes %d steps, and has %d cells", many, steps, len(h))
		}
	}
}

// busyGraph returns a graph with many cells that a step can change, some of
// which have others as operands.
func busyGraph(r *rand.Rand, p []impl.Def) []impl.Cell {
	g := append(numberCells(3), cell(impl.ExpPair, 0, 0, 1))
	some := func() int { return r.Intn(len(g)) }
	for range r.Intn(25) {
		switch r.Intn(5) {
		case 0:
			g = append(g, cell(impl.ExpAdd+r.Intn(2), 0, r.Intn(3), r.Intn(3)))
		case 1:
			g = append(g, cell(impl.ExpFst+r.Intn(2), 0, 3))
		case 2:
			g = append(g, cell(impl.ExpIf, 0, r.Intn(3), some(), some()))
		case 3:
			g = append(g, cell(impl.ExpPair, 0, some(), some()), cell(impl.ExpFst+r.Intn(2), 0, len(g)), cell(impl.ExpInd, 0, some()))
		case 4:
			if len(p) == 0 {
				continue
			}
			f := r.Intn(len(p))
			g = append(g, cell(impl.ExpGlobal, f))
			for range p[f].Arity {
				g = append(g, cell(impl.ExpApp, 0, len(g)-1, some()))
			}
		}
	}
	if r.Intn(4) == 0 {
		g = padded(g, impl.MaxCells-r.Intn(40))
	}
	return g
}

func TestRandomPlays(t *testing.T) {
	r := rand.New(rand.NewSource(103))
	played, sparked := 0, 0
	for i := range 2000 {
		p := randomProgram(r)
		g := mixedGraph(r, p)
		if i%2 == 0 {
			g = busyGraph(r, p)
		}
		before := cloneGraph(g)
		script := randomScript(r, 8)
		if i%50 == 0 {
			script = randomScript(r, 40)
		}
		given := slices.Clone(script)
		played += checkPlay(t, p, g, script)
		sparked += checkSpark(t, p, g)
		if !equalGraphs(g, before) || !slices.Equal(script, given) {
			t.Fatal("a function changes its arguments")
		}
	}
	if played < 3000 || sparked < 6000 {
		t.Errorf("%d steps are played, and %d made at once", played, sparked)
	}
}

// TestSparksArePlays checks that steps that are made at once are those that are
// made one after the other, each time of the first cell that was there before.
func TestSparksArePlays(t *testing.T) {
	r := rand.New(rand.NewSource(104))
	for range 2000 {
		p := randomProgram(r)
		g := busyGraph(r, p)
		h, made := cloneGraph(g), 0
		for _, at := range impl.RedexesOf(p, g) {
			k, code := impl.StepAt(p, h, at)
			if code == impl.EvalStuck {
				t.Fatalf("a step of %d of\n%s can't be made after others", at, impl.FormatGraph(g))
			}
			if code == impl.EvalDone {
				h, made = k, made+1
			}
		}
		k, steps := impl.SparkGraph(p, g)
		if steps != made || !equalGraphs(k, h) {
			t.Fatalf("SparkGraph of\n%smakes %d steps, not %d", impl.FormatGraph(g), steps, made)
		}
	}
}

func TestStepsInAnyOrderShareNoMemory(t *testing.T) {
	const program = "A1=<a,(a+1)>;B1=a;"
	steps := map[string]func(p []impl.Def, g []impl.Cell) []impl.Cell{
		"StepAt":  func(p []impl.Def, g []impl.Cell) []impl.Cell { h, _ := impl.StepAt(p, g, 0); return h },
		"PlayAt":  func(p []impl.Def, g []impl.Cell) []impl.Cell { h, _ := impl.PlayAt(p, g, []int{1, 0, -1}); return h },
		"no play": func(p []impl.Def, g []impl.Cell) []impl.Cell { h, _ := impl.PlayAt(p, g, nil); return h },
		"Spark":   func(p []impl.Def, g []impl.Cell) []impl.Cell { h, _ := impl.SparkGraph(p, g); return h },
	}
	// A call, one that adds nothing, other steps, no step, and one without room.
	for _, text := range []string{
		"app #1 #2;fun 0;num 7;ind #2;", "app #1 #2;fun 1;num 7;ind #2;", "add #2 #3;fun 0;num 7;ind #2;", "fst #4;fun 0;num 7;ind #2;pair #2 #2;",
		"if #2 #0 #0;fun 0;num 7;ind #2;add #2 #2;app #1 #2;", "pair #2 #2;fun 0;num 7;ind #2;",
	} {
		for _, many := range []int{0, impl.MaxCells - 1} {
			for name, step := range steps {
				p := mustProgram(t, program)
				room := append(padded(graphOf(t, text), many), cell(33, 1))
				g := room[:len(room)-1]
				kids := append(append([]int{}, g[0].Kids...), 55)
				g[0].Kids = kids[:len(kids)-1]
				before := cloneGraph(g)
				h, again := step(p, g), step(p, g)
				want := cloneGraph(h)
				for i := range h {
					_ = append(h[i].Kids, 44)
				}
				checkGraph(t, name+text, h, want)
				spoilGraph(h)
				checkGraph(t, name+text, g, before)
				checkGraph(t, name+text, again, want)
				if room[len(g)].Op != 33 || kids[len(kids)-1] != 55 {
					t.Errorf("a result of %s for %s shares memory with an argument", name, text)
				}
				spoilGraph(room)
				spoil(p[0].Body)
				checkGraph(t, name+text, again, want)
			}
		}
	}
}
