package tests

import (
	"math/rand"
	"slices"
	"testing"

	"loop.example/graphreducer/impl"
)

// mergeCases are graphs with what is left of them if cells that are the same are made one.
var mergeCases = []collectCase{
	{"", nil, "", nil},
	{"num 1;num 1;", nil, "", nil},
	{"num 1;num 2;add #0 #1;num 1;num 2;add #3 #4;add #2 #5;", []int{6}, "add #1 #1;add #2 #3;num 1;num 2;", []int{0}},
	// Another kind, number or function, or another order of operands.
	{"num 1;num 2;num 1;num 0;", []int{0, 1, 2, 3}, "num 1;num 2;num 0;", []int{0, 1, 0, 2}},
	{"num 1;fun 1;fun 1;fun 0;num 0;", []int{0, 1, 2, 3, 4}, "num 1;fun 1;fun 0;num 0;", []int{0, 1, 1, 2, 3}},
	{"num 1;num 2;pair #0 #1;pair #1 #0;pair #0 #1;", []int{2, 3, 4}, "pair #2 #3;pair #3 #2;num 1;num 2;", []int{0, 1, 0}},
	{"num 1;fst #0;snd #0;fst #0;add #0 #0;sub #0 #0;app #0 #0;pair #0 #0;", []int{1, 2, 3, 4, 5, 6, 7}, "fst #6;snd #6;add #6 #6;sub #6 #6;app #6 #6;pair #6 #6;num 1;", []int{0, 1, 0, 2, 3, 4, 5}},
	{"num 1;num 2;if #0 #1 #1;if #0 #1 #0;if #0 #0 #1;if #1 #1 #1;if #0 #1 #1;", []int{2, 3, 4, 5, 6}, "if #4 #5 #5;if #4 #5 #4;if #4 #4 #5;if #5 #5 #5;num 1;num 2;", []int{0, 1, 2, 3, 0}},
	// The first cell that is the same is the first one after the collection.
	{"num 5;num 5;fst #1;snd #0;pair #2 #3;", []int{4}, "pair #1 #2;fst #3;snd #3;num 5;", []int{0}},
	{"num 5;num 5;num 5;", []int{2, 0, 1}, "num 5;", []int{0, 0, 0}},
	// Operands that are the same, not only equal ones, at each depth.
	{"num 1;num 1;fst #0;fst #1;snd #2;snd #3;add #4 #5;", []int{6}, "add #1 #1;snd #2;fst #3;num 1;", []int{0}},
	{"num 1;num 1;fst #0;fst #1;snd #2;fst #3;add #4 #5;", []int{6}, "add #1 #2;snd #3;fst #3;fst #4;num 1;", []int{0}},
	{"num 1;num 1;pair #0 #1;pair #1 #1;pair #1 #0;app #2 #3;app #4 #2;pair #5 #6;", []int{7, 6}, "pair #1 #1;app #2 #2;pair #3 #3;num 1;", []int{0, 1}},
	{"num 1;ind #0;num 1;ind #1;ind #2;pair #3 #4;pair #2 #0;ind #6;app #5 #7;", []int{8, 7}, "app #1 #1;pair #2 #2;num 1;", []int{0, 1}},
	// What is not reached does not count, nor do cells that stand for others.
	{"num 1;num 1;fst #1;", []int{2}, "fst #1;num 1;", []int{0}},
	{"num 1;ind #0;ind #1;", []int{2, 1, 0}, "num 1;", []int{0, 0, 0}},
	// Selections and sums stay.
	{"num 1;pair #0 #0;fst #1;add #0 #0;", []int{2, 3}, "fst #2;add #3 #3;pair #3 #3;num 1;", []int{0, 1}},
	// Equal cells in a circle, or in two, are the same only if this follows.
	{"pair #1 #1;pair #0 #0;", []int{0}, "pair #1 #1;pair #0 #0;", []int{0}},
	{"pair #0 #0;pair #1 #1;", []int{0, 1}, "pair #0 #0;pair #1 #1;", []int{0, 1}},
	{"pair #2 #1;pair #2 #0;num 1;", []int{0}, "pair #1 #2;num 1;pair #1 #0;", []int{0}},
	{"pair #2 #0;pair #3 #1;num 1;num 1;", []int{0, 1}, "pair #2 #0;pair #2 #1;num 1;", []int{0, 1}},
	{"fst #1;fst #2;fst #0;", []int{1}, "fst #1;fst #2;fst #0;", []int{0}},
	{"fst #1;fst #0;snd #0;snd #1;", []int{2, 3}, "snd #2;snd #3;fst #3;fst #2;", []int{0, 1}},
	// They are, if their operands are the same ones, also as operands of each other.
	{"pair #0 #0;pair #0 #0;", []int{1}, "pair #0 #0;", []int{0}},
	{"pair #1 #1;pair #1 #1;", []int{0, 1}, "pair #0 #0;", []int{0, 0}},
	{"fst #0;fst #0;fst #1;fst #2;", []int{3, 2}, "fst #0;", []int{0, 0}},
	{"snd #1;fst #0;fst #0;snd #2;snd #3;", []int{4}, "snd #1;snd #2;fst #1;", []int{0}},
	{"snd #1;fst #0;fst #0;snd #2;snd #1;", []int{2, 3, 4}, "fst #1;snd #0;", []int{0, 1, 1}},
	{"num 1;pair #0 #4;num 1;pair #2 #4;app #1 #3;", []int{4}, "app #1 #1;pair #2 #0;num 1;", []int{0}},
	// Cells that stand for none.
	{"ind #0;ind #1;pair #0 #1;", []int{2}, "pair #1 #2;ind #1;ind #2;", []int{0}},
	{"ind #0;ind #0;pair #0 #1;", []int{2, 1}, "pair #1 #1;ind #1;", []int{0, 1}},
	{"ind #1;ind #0;ind #0;pair #2 #1;", []int{3}, "pair #1 #1;ind #2;ind #1;", []int{0}},
}

func TestMergeCells(t *testing.T) {
	for _, c := range mergeCases {
		g := graphOf(t, c.graph)
		h, tops, ok := impl.MergeCells(g, c.roots)
		checkCopied(t, "MergeCells of "+c.graph, h, tops, ok, graphOf(t, c.collected), c.tops)
		checkMerge(t, g, c.roots)
	}
}

func TestSmallMerges(t *testing.T) {
	r := rand.New(rand.NewSource(105))
	fewer := 0
	for many := 1; many <= 3; many++ {
		smallGraphs(many, func(g []impl.Cell) {
			roots := make([]int, many)
			for at := range g {
				roots[at] = at
				checkMerge(t, g, []int{at})
			}
			collected, _, _ := impl.CollectGraph(g, roots)
			if len(checkMerge(t, g, roots)) < len(collected) {
				fewer++
			}
			checkMerge(t, g, pickRoots(r, g, 4))
		})
	}
	if fewer < 1000 {
		t.Errorf("%d graphs have cells that are the same", fewer)
	}
}

func TestRandomMerges(t *testing.T) {
	r := rand.New(rand.NewSource(106))
	fewer := 0
	for i := range 3000 {
		g := fewKinds(r, 1+r.Intn(40))
		if i%3 == 0 {
			g = randomGraph(r, 1+r.Intn(40), allDefs, 1+r.Intn(20))
		}
		before := cloneGraph(g)
		roots := append(pickRoots(r, g, 19), len(g)-1)
		given := slices.Clone(roots)
		h := checkMerge(t, g, roots)
		if !equalGraphs(g, before) || !slices.Equal(roots, given) {
			t.Fatal("MergeCells changes its arguments")
		}
		if collected, _, _ := impl.CollectGraph(g, roots); len(h) < len(collected)-1 {
			fewer++
		}
	}
	if fewer < 1000 {
		t.Errorf("%d graphs have cells that are the same", fewer)
	}
}

func TestMergesOfManyCells(t *testing.T) {
	last := impl.MaxCells - 1
	// All of them one, and none.
	for _, many := range []int{1, 2, impl.MaxCells} {
		g := make([]impl.Cell, many)
		for at := range g {
			g[at] = cell(impl.ExpPair, 0, max(at-1, 0), 0)
		}
		if h, tops, ok := impl.MergeCells(g, []int{many - 1, 0}); !ok || len(h) != 1 || !slices.Equal(tops, []int{0, 0}) {
			t.Errorf("MergeCells of %d cells has %d", many, len(h))
		}
		g[0] = cell(impl.ExpNum, 3)
		if h, _, ok := impl.MergeCells(g, []int{many - 1}); !ok || len(h) != many {
			t.Errorf("MergeCells of %d other cells has %d", many, len(h))
		}
		g[0] = cell(impl.ExpPair, 0, many-1, 0)
		if h, _, ok := impl.MergeCells(g, []int{many - 1}); !ok || len(h) != max(many, 1) {
			t.Errorf("MergeCells of %d cells in a circle has %d", many, len(h))
		}
	}
	// Two chains side by side, which are the same from the end to the beginning, or not at all.
	for _, c := range []struct{ first, second, many int }{{7, 7, 200}, {7, 8, 400}} {
		g := []impl.Cell{cell(impl.ExpNum, c.first), cell(impl.ExpNum, c.second)}
		for len(g) < impl.MaxCells {
			g = append(g, cell(impl.ExpFst, 0, len(g)-2))
		}
		if h, tops, ok := impl.MergeCells(g, []int{last, last - 1}); !ok || len(h) != c.many || tops[1] != (c.many/200)-1 {
			t.Errorf("MergeCells of two chains has %d cells", len(h))
		}
	}
	if h, tops, ok := impl.MergeCells(numberCells(impl.MaxCells), []int{last, 3, last}); !ok || len(h) != 2 || !slices.Equal(tops, []int{0, 1, 0}) {
		t.Errorf("MergeCells of numbers = %v, %v", h, tops)
	}
	if h, tops, ok := impl.MergeCells(indChain(last), []int{last, 3}); !ok || len(h) != 1 || !slices.Equal(tops, []int{0, 0}) {
		t.Errorf("MergeCells of a chain = %v, %v", h, tops)
	}
}

// partsOf adds the texts of all parts of an expression.
func partsOf(e impl.Expr, parts map[string]bool) map[string]bool {
	parts[impl.FormatExpr(e)] = true
	for _, k := range e.Kids {
		partsOf(k, parts)
	}
	return parts
}

// TestMergesOfExprs checks that the graph of an expression keeps one cell for
// each expression that is a part of it.
func TestMergesOfExprs(t *testing.T) {
	r := rand.New(rand.NewSource(107))
	fewer := 0
	for range 3000 {
		e := randomExpr(r, 0, 2, 1+r.Intn(6))
		if r.Intn(2) == 0 {
			e = node(impl.ExpPair, 0, e, e)
		}
		g, root, ok := impl.BuildGraph(e, allDefs)
		if !ok {
			continue
		}
		h, tops, ok := impl.MergeCells(g, []int{root})
		back, okBack := impl.ReadGraph(h, tops[0], allDefs)
		if parts := partsOf(e, map[string]bool{}); !ok || !okBack || !equal(back, e) || len(h) != len(parts) {
			t.Fatalf("%s is merged as\n%s", impl.FormatExpr(e), impl.FormatGraph(h))
		}
		if len(h) < len(g) {
			fewer++
		}
	}
	if fewer < 1000 {
		t.Errorf("%d expressions have parts that are equal", fewer)
	}
}

// TestMergesKeepExprs checks that each root is read back as before, that no two
// cells that are left are the same, and that nothing else is kept.
func TestMergesKeepExprs(t *testing.T) {
	r := rand.New(rand.NewSource(108))
	read := 0
	for i := range 4000 {
		g := mixedGraph(r, randomProgram(r))
		if i%2 == 0 {
			g = fewKinds(r, 1+r.Intn(30))
		}
		roots := append(pickRoots(r, g, 4), len(g)-1)
		h, tops, _ := impl.MergeCells(g, roots)
		checkNothingElse(t, h, tops, impl.MergeCells)
		for i, root := range roots {
			e, ok := impl.ReadGraph(g, root, allDefs)
			back, okBack := impl.ReadGraph(h, tops[i], allDefs)
			if ok != okBack || !equal(back, e) {
				t.Fatalf("%d of\n%sis read back as %v, and merged as %v", root, impl.FormatGraph(g), e, back)
			}
			if ok {
				read++
			}
		}
		for x := range h {
			for y := range x {
				if equalGraphs(h[x:x+1], h[y:y+1]) {
					t.Fatalf("MergeCells of\n%shas the equal cells %d and %d", impl.FormatGraph(g), y, x)
				}
			}
		}
	}
	if read < 3000 {
		t.Errorf("%d expressions are read back", read)
	}
}

func checkNoMerge(t *testing.T, g []impl.Cell, roots []int) {
	t.Helper()
	if h, tops, ok := impl.MergeCells(g, roots); ok || len(h) != 0 || len(tops) != 0 {
		t.Errorf("MergeCells(%v, %v) = %v, %v, %v", g, roots, h, tops, ok)
	}
}

func TestInvalidMerges(t *testing.T) {
	g := graphOf(t, "pair #1 #1;num 1;fst #0;ind #2;")
	for _, wrong := range wrongCells() {
		for at := range len(g) + 1 {
			for _, roots := range [][]int{nil, {0}, {len(g) - 1}, {len(g)}} {
				checkNoMerge(t, slices.Insert(slices.Clone(g), at, wrong), roots)
			}
		}
	}
	for _, g := range [][]impl.Cell{nil, {}, graphOf(t, "num 1;"), g, numberCells(impl.MaxCells)} {
		for _, wrong := range []int{-1, -2, len(g), len(g) + 1, impl.MaxCells, 1<<63 - 1, -1 << 63} {
			checkNoMerge(t, g, []int{wrong})
			checkNoMerge(t, g, []int{wrong, 0})
			checkNoMerge(t, g, append(make([]int, 19), wrong))
		}
		checkNoMerge(t, g, make([]int, 21))
		checkNoMerge(t, g, make([]int, 1000))
	}
	checkNoMerge(t, numberCells(impl.MaxCells+1), []int{0})
	checkNoMerge(t, indChain(impl.MaxCells), nil)
	// As many roots and cells as there can be.
	checkMerge(t, graphOf(t, everyKind), make([]int, 20))
	checkMerge(t, nil, nil)
	checkMerge(t, []impl.Cell{}, []int{})
}

func TestMergesShareNoMemory(t *testing.T) {
	const text = "num 1;pair #0 #0;fst #1;ind #2;pair #3 #1;pair #0 #5;num 1;"
	room := append(graphOf(t, text), cell(33, 1))
	g := room[:7]
	kids := append(append([]int{}, g[4].Kids...), 55)
	g[4].Kids = kids[:2]
	g[0].Kids = []int{66}[:0]
	roots := append([]int{4, 5, 6}, 77)
	h, tops, _ := impl.MergeCells(g, roots[:3])
	again, topsAgain, _ := impl.MergeCells(g, roots[:3])
	want, wantTops := mergeBy(g, roots[:3])
	for i := range h {
		_ = append(h[i].Kids, 44)
	}
	checkGraph(t, "MergeCells", h, want)
	spoilGraph(h)
	spoilInts(tops)
	if room[7].Op != 33 || kids[2] != 55 || g[0].Kids[:1][0] != 66 || !slices.Equal(roots, []int{4, 5, 6, 77}) {
		t.Error("a result shares memory with an argument")
	}
	checkGraph(t, "the argument", g, graphOf(t, text))
	spoilGraph(room)
	spoilInts(roots)
	checkGraph(t, "MergeCells", again, want)
	checkInts(t, topsAgain, wantTops)
}
