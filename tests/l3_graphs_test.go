package tests

import (
	"math/rand"
	"slices"
	"strings"
	"testing"

	"loop.example/graphreducer/impl"
)

// everyKind is the text of a graph with a cell of each kind, with circles.
const everyKind = "num 0;num 999;fun 0;fun 5;app #2 #0;pair #4 #5;fst #5;snd #11;add #6 #7;sub #1 #12;if #8 #9 #10;ind #11;ind #10;"

func TestGraphTexts(t *testing.T) {
	for _, text := range []string{
		"", "num 7;", "fun 0;num 1;num 2;add #1 #2;app #0 #3;", "ind #0;", "pair #0 #0;", "ind #1;num 10;", everyKind,
		"num 0;num 1;num 2;num 3;num 4;num 5;num 6;num 7;num 8;num 9;num 10;if #10 #9 #0;",
	} {
		g := graphOf(t, text)
		if got := impl.FormatGraph(g); got != numbered(text) {
			t.Errorf("FormatGraph is %q, not %q", got, numbered(text))
		}
		if !impl.GraphValid(g, allDefs) || !impl.GraphSame(g, graphOf(t, text)) {
			t.Errorf("%s is not valid, or not equal to itself", text)
		}
	}
	const want = "0 fun 0\n1 num 1\n2 num 2\n3 add #1 #2\n4 app #0 #3\n"
	if got := impl.FormatGraph(graphOf(t, "fun 0;num 1;num 2;add #1 #2;app #0 #3;")); got != want {
		t.Errorf("FormatGraph is %q, not %q", got, want)
	}
}

func TestLongGraphTexts(t *testing.T) {
	got := impl.FormatGraph(indChain(impl.MaxCells - 1))
	if !strings.HasPrefix(got, "0 num 7\n1 ind #0\n") || !strings.HasSuffix(got, "\n398 ind #397\n399 ind #398\n") || strings.Count(got, "\n") != impl.MaxCells {
		t.Errorf("FormatGraph is %q", got)
	}
	if got := impl.FormatGraph(indChain(impl.MaxCells)); got != "" {
		t.Errorf("FormatGraph of too many cells is %q", got)
	}
}

func TestGraphValid(t *testing.T) {
	empty, one, all := []impl.Cell{}, graphOf(t, "num 5;"), graphOf(t, everyKind)
	for defs := -2; defs < 10; defs++ {
		inRange := 0 <= defs && defs <= impl.MaxDefs
		if impl.GraphValid(nil, defs) != inRange || impl.GraphValid(empty, defs) != inRange || impl.GraphValid(one, defs) != inRange {
			t.Errorf("GraphValid of numbers with %d functions is not %v", defs, inRange)
		}
		if impl.GraphValid(all, defs) != (defs == impl.MaxDefs) {
			t.Errorf("GraphValid of %s with %d functions", everyKind, defs)
		}
		for f := range impl.MaxDefs {
			if impl.GraphValid([]impl.Cell{cell(impl.ExpGlobal, f)}, defs) != (inRange && f < defs) {
				t.Errorf("GraphValid of the function %d with %d functions", f, defs)
			}
		}
	}
	for _, defs := range []int{1 << 62, -1 << 63} {
		if impl.GraphValid(nil, defs) || impl.GraphValid(one, defs) {
			t.Errorf("GraphValid with %d functions", defs)
		}
	}
	for many := impl.MaxCells - 2; many < impl.MaxCells+3; many++ {
		if impl.GraphValid(numberCells(many), 0) != (many <= impl.MaxCells) {
			t.Errorf("GraphValid of %d cells", many)
		}
	}
	if impl.GraphValid(numberCells(1000000), 0) {
		t.Error("GraphValid of a million cells")
	}
	if !impl.GraphValid([]impl.Cell{{Op: impl.ExpNum, Kids: []int{}}, {Op: impl.ExpGlobal, Kids: []int{}}}, 1) {
		t.Error("GraphValid takes Kids that are empty for some that are there")
	}
}

func TestOperandsAreCells(t *testing.T) {
	for op := impl.ExpApp; op <= impl.ExpInd; op++ {
		for at := range kidsOfCell(op) {
			for kid := -3; kid < 8; kid++ {
				kids := make([]int, kidsOfCell(op))
				kids[at] = kid
				for many := range 5 {
					g := append(numberCells(many), cell(op, 0, kids...))
					if impl.GraphValid(g, 0) != (0 <= kid && kid < len(g)) {
						t.Errorf("GraphValid(%v) is %v", g, impl.GraphValid(g, 0))
					}
				}
			}
		}
	}
}

// checkNoGraph checks the functions of the chapter with a graph that is not valid.
func checkNoGraph(t *testing.T, g []impl.Cell, at int) {
	t.Helper()
	for defs := -1; defs < 8; defs++ {
		if impl.GraphValid(g, defs) {
			t.Errorf("GraphValid(%v, %d)", g, defs)
		}
		checkNoAdd(t, g, number(1), nil, defs)
		checkNoAdd(t, g, variable(0), []int{at}, defs)
		if e, ok := impl.ReadGraph(g, at, defs); ok || !isZero(e) {
			t.Errorf("ReadGraph(%v, %d, %d) = %v, %v", g, at, defs, e, ok)
		}
	}
	if text := impl.FormatGraph(g); text != "" {
		t.Errorf("FormatGraph(%v) = %q", g, text)
	}
	checkNoCell(t, g, at)
}

// checkNoCell checks the functions of the chapter that ask for a cell of a graph.
func checkNoCell(t *testing.T, g []impl.Cell, at int) {
	t.Helper()
	if to, ok := impl.FollowInd(g, at); ok || to != 0 {
		t.Errorf("FollowInd(%v, %d) = %d, %v", g, at, to, ok)
	}
	if list := impl.CellsFrom(g, at); len(list) != 0 {
		t.Errorf("CellsFrom(%v, %d) = %v", g, at, list)
	}
	if list := impl.SharedCells(g, at); len(list) != 0 {
		t.Errorf("SharedCells(%v, %d) = %v", g, at, list)
	}
	if e, ok := impl.ReadGraph(g, at, allDefs); ok || !isZero(e) {
		t.Errorf("ReadGraph(%v, %d) = %v, %v", g, at, e, ok)
	}
}

func TestWrongCells(t *testing.T) {
	for _, wrong := range wrongCells() {
		// The first cell is reached from itself, and does not reach what is wrong.
		g := graphOf(t, "pair #1 #1;num 2;ind #1;")
		for at := range len(g) + 1 {
			checkNoGraph(t, slices.Insert(slices.Clone(g), at, wrong), 0)
			checkNoGraph(t, slices.Insert(slices.Clone(g), at, wrong), at)
		}
		checkNoGraph(t, []impl.Cell{wrong}, 0)
	}
	checkNoGraph(t, numberCells(impl.MaxCells+1), 0)
	checkNoGraph(t, indChain(impl.MaxCells), impl.MaxCells)
}

func TestNoCells(t *testing.T) {
	graphs := [][]impl.Cell{nil, {}, graphOf(t, "num 1;"), graphOf(t, "pair #1 #1;num 2;ind #1;"), graphOf(t, everyKind), numberCells(impl.MaxCells)}
	for _, g := range graphs {
		for _, at := range []int{-1, -2, len(g), len(g) + 1, impl.MaxCells, 1<<63 - 1, -1 << 63} {
			checkNoCell(t, g, at)
			checkNoAdd(t, g, variable(0), []int{at}, allDefs)
		}
	}
}

func TestFunctionsOfGraphs(t *testing.T) {
	// Reading and adding ask for the given number of functions; the others do not.
	g := graphOf(t, "fun 3;num 1;app #0 #1;pair #1 #1;")
	for defs := -1; defs < 8; defs++ {
		inRange := 0 <= defs && defs <= impl.MaxDefs
		for at, want := range []string{"D", "1", "(D 1)", "<1,1>"} {
			e, ok := impl.ReadGraph(g, at, defs)
			if ok != (inRange && defs > 3) || ok && impl.FormatExpr(e) != want || !ok && !isZero(e) {
				t.Errorf("ReadGraph from %d with %d functions = %v, %v", at, defs, e, ok)
			}
		}
		if !inRange || defs <= 3 {
			checkNoAdd(t, g, number(1), nil, defs)
		} else {
			checkAdd(t, g, number(1), nil, defs)
		}
	}
	if to, ok := impl.FollowInd(g, 2); !ok || to != 2 {
		t.Errorf("FollowInd = %d, %v", to, ok)
	}
	checkInts(t, impl.CellsFrom(g, 2), []int{0, 1, 2})
	checkInts(t, impl.SharedCells(g, 3), []int{1})
}

func TestGraphSame(t *testing.T) {
	// Each graph is equal to itself only, whether it is valid or not.
	texts := []string{
		"num 1;", "num 2;", "fun 1;", "num 1;num 1;", "num 1;num 2;", "ind #0;", "ind #1;", "ind #-1;", "pair #0 #1;", "pair #1 #0;", "app #0 #1;",
		"pair #0;", "pair #0 #0;", "pair #0 #0 #0;", "pair #0 #0 #1;", "pair 1 #0 #0;", "pair;", "num 1 #0;", "num -5;", "num 1;pair #0 #0;", "num 1;pair #0 #1;", everyKind,
	}
	graphs := [][]impl.Cell{nil, {{}}, {{}, {}}, {cell(77, -1, 5)}, numberCells(1000), numberCells(1001)}
	for _, text := range texts {
		graphs = append(graphs, graphOf(t, text))
	}
	for i, a := range graphs {
		for j, b := range graphs {
			if impl.GraphSame(a, cloneGraph(b)) != (i == j) {
				t.Errorf("GraphSame(%v, %v) is %v", a, b, i != j)
			}
		}
	}
	if !impl.GraphSame(nil, []impl.Cell{}) || !impl.GraphSame([]impl.Cell{{Op: 2}}, []impl.Cell{{Op: 2, Kids: []int{}}}) {
		t.Error("GraphSame takes nil for another value than an empty slice")
	}
}

func TestRandomGraphTexts(t *testing.T) {
	r := rand.New(rand.NewSource(21))
	for range 500 {
		g := randomGraph(r, 1+r.Intn(40), allDefs, 1+r.Intn(9))
		before := cloneGraph(g)
		var lines []string
		for line := range strings.Lines(impl.FormatGraph(g)) {
			_, text, _ := strings.Cut(strings.TrimSuffix(line, "\n"), " ")
			lines = append(lines, text)
		}
		again := graphOf(t, strings.Join(lines, ";"))
		if !impl.GraphValid(g, allDefs) || !equalGraphs(g, before) || !equalGraphs(again, g) || !impl.GraphSame(again, g) {
			t.Fatalf("%v is read back as %v", g, again)
		}
		changed := r.Intn(len(g))
		again[changed].N++
		if impl.GraphSame(again, g) || impl.GraphSame(g, again[:len(g)-1]) {
			t.Fatalf("GraphSame does not see a change of the cell %d", changed)
		}
	}
}
