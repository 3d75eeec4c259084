package tests

import (
	"math/rand"
	"slices"
	"testing"

	"loop.example/graphreducer/impl"
)

// copyCase is a graph with what is copied of it from some roots.
type copyCase struct {
	graph  string
	roots  []int
	order  []int
	copied string
	tops   []int
	live   int
}

var copyCases = []copyCase{
	// Nothing from no roots.
	{"", nil, nil, "", nil, 0},
	{"num 1;pair #0 #0;", nil, nil, "", nil, 0},
	// What cannot be reached is left out.
	{"num 1;num 2;num 3;", []int{1}, []int{1}, "num 2;", []int{0}, 1},
	{"num 1;pair #0 #0;fst #1;", []int{1}, []int{1, 0}, "pair #1 #1;num 1;", []int{0}, 2},
	{"fun 5;num 0;app #0 #1;num 999;", []int{2}, []int{2, 0, 1}, "app #1 #2;fun 5;num 0;", []int{0}, 3},
	// The operands of each cell are copied before those of its operands.
	{"num 1;num 2;num 3;add #0 #1;sub #3 #2;", []int{4}, []int{4, 3, 2, 0, 1}, "sub #1 #2;add #3 #4;num 3;num 1;num 2;", []int{0}, 5},
	{"num 1;num 2;num 3;num 4;pair #0 #1;pair #2 #3;if #4 #3 #5;", []int{6}, []int{6, 4, 3, 5, 0, 1, 2}, "if #1 #2 #3;pair #4 #5;num 4;pair #6 #2;num 1;num 2;num 3;", []int{0}, 7},
	// A cell that is shared is copied once, also one that is its own operand.
	{"num 1;add #0 #0;pair #1 #1;", []int{2}, []int{2, 1, 0}, "pair #1 #1;add #2 #2;num 1;", []int{0}, 3},
	{"num 1;num 1;pair #0 #1;", []int{2}, []int{2, 0, 1}, "pair #1 #2;num 1;num 1;", []int{0}, 3},
	{"num 7;pair #1 #1;", []int{1}, []int{1}, "pair #0 #0;", []int{0}, 1},
	{"snd #2;num 7;pair #0 #1;", []int{0}, []int{0, 2, 1}, "snd #1;pair #0 #2;num 7;", []int{0}, 3},
	// Roots come first, in order, and can be equal, or operands of others.
	{"num 1;num 2;num 3;pair #0 #1;", []int{3, 2}, []int{3, 2, 0, 1}, "pair #2 #3;num 3;num 1;num 2;", []int{0, 1}, 4},
	{"num 1;num 2;num 3;pair #0 #1;", []int{1, 3}, []int{1, 3, 0}, "num 2;pair #2 #0;num 1;", []int{0, 1}, 3},
	{"num 1;num 2;num 3;pair #0 #1;", []int{2, 0, 2, 0}, []int{2, 0}, "num 3;num 1;", []int{0, 1, 0, 1}, 2},
	{"num 1;num 2;num 3;pair #0 #1;", []int{3, 3, 1, 3}, []int{3, 1, 0}, "pair #2 #1;num 2;num 1;", []int{0, 0, 1, 0}, 3},
	// Cells that stand for others are copied as they are, but do not count as live.
	{"num 1;ind #0;ind #1;fst #2;", []int{3}, []int{3, 2, 1, 0}, "fst #1;ind #2;ind #3;num 1;", []int{0}, 2},
	{"num 1;ind #0;pair #1 #0;", []int{1, 2, 0}, []int{1, 2, 0}, "ind #2;pair #0 #2;num 1;", []int{0, 1, 2}, 2},
	{"ind #0;", []int{0}, []int{0}, "ind #0;", []int{0}, 0},
	{"num 1;ind #2;ind #1;pair #1 #2;", []int{3}, []int{3, 1, 2}, "pair #1 #2;ind #2;ind #1;", []int{0}, 1},
}

func TestCopyGraph(t *testing.T) {
	for _, c := range copyCases {
		g := graphOf(t, c.graph)
		h, tops, ok := impl.CopyGraph(g, c.roots)
		checkCopied(t, "CopyGraph of "+c.graph, h, tops, ok, graphOf(t, c.copied), c.tops)
		if order := impl.CopyOrder(g, c.roots); !slices.Equal(order, c.order) {
			t.Errorf("CopyOrder(%s, %v) = %v", c.graph, c.roots, order)
		}
		if live, ok := impl.LiveCells(g, c.roots); !ok || live != c.live {
			t.Errorf("LiveCells(%s, %v) = %d, %v", c.graph, c.roots, live, ok)
		}
	}
}

func TestCopyOfEachKind(t *testing.T) {
	r := rand.New(rand.NewSource(51))
	g := graphOf(t, everyKind)
	for first := range g {
		for second := range g {
			checkCopies(t, r, g, []int{first, second})
		}
		checkCopies(t, r, g, []int{first})
	}
	checkSelected(t, r, g)
	for op := impl.ExpApp; op <= impl.ExpInd; op++ {
		kids := []int{3, 1, 2}[:kidsOfCell(op)]
		h := append(numberCells(4), cell(op, 0, kids...))
		copied, tops, ok := impl.CopyGraph(h, []int{4})
		want := []impl.Cell{cell(op, 0, []int{1, 2, 3}[:len(kids)]...)}
		for _, k := range kids {
			want = append(want, cell(impl.ExpNum, k))
		}
		checkCopied(t, "CopyGraph of a kind", copied, tops, ok, want, []int{0})
	}
}

func TestManyRoots(t *testing.T) {
	r := rand.New(rand.NewSource(52))
	for _, g := range [][]impl.Cell{numberCells(30), indChain(30), graphOf(t, everyKind)} {
		for many := range 21 {
			checkCopies(t, r, g, slices.Repeat([]int{len(g) - 1}, many))
			var roots []int
			for i := range many {
				roots = append(roots, (7*i+3)%len(g))
			}
			checkCopies(t, r, g, roots)
			slices.Reverse(roots)
			checkCopies(t, r, g, roots)
		}
		for _, many := range []int{21, 22, 1000} {
			checkNoCopy(t, g, make([]int, many))
		}
	}
}

func TestCopiesOfManyCells(t *testing.T) {
	r := rand.New(rand.NewSource(53))
	last := impl.MaxCells - 1
	checkCopies(t, r, numberCells(impl.MaxCells), []int{last, 5})
	checkCopies(t, r, indChain(last), []int{last, 0, 200})
	for _, op := range []int{impl.ExpApp, impl.ExpPair, impl.ExpFst, impl.ExpSnd, impl.ExpIf} {
		g := numberCells(1)
		for at := 1; at < impl.MaxCells; at++ {
			g = append(g, cell(op, 0, []int{at - 1, at / 2, 0}[:kidsOfCell(op)]...))
		}
		checkCopies(t, r, g, []int{last})
		checkCopies(t, r, g, []int{200, last})
		// The same in a circle.
		g[0] = cell(op, 0, []int{last, last, last}[:kidsOfCell(op)]...)
		checkCopies(t, r, g, []int{7})
	}
}

func TestSmallCopies(t *testing.T) {
	r := rand.New(rand.NewSource(54))
	for many := 1; many <= 3; many++ {
		smallGraphs(many, func(g []impl.Cell) {
			checkSelected(t, r, g)
			for root := range g {
				checkCopies(t, r, g, []int{root})
			}
			checkCopies(t, r, g, pickRoots(r, g, 4))
		})
	}
}

func TestRandomCopies(t *testing.T) {
	r := rand.New(rand.NewSource(55))
	for i := range 4000 {
		g := randomGraph(r, 1+r.Intn(40), allDefs, 1+r.Intn(20))
		if i%2 == 0 {
			g = pairGraph(r, 1+r.Intn(40))
		}
		before := cloneGraph(g)
		roots := pickRoots(r, g, 20)
		rootsBefore := slices.Clone(roots)
		checkCopies(t, r, g, roots)
		checkSelected(t, r, g)
		checkCopies(t, r, g, []int{r.Intn(len(g))})
		if !equalGraphs(g, before) || !slices.Equal(roots, rootsBefore) {
			t.Fatal("a function changes its arguments")
		}
	}
}

// checkNoCopy checks the functions with roots for arguments that are not valid.
func checkNoCopy(t *testing.T, g []impl.Cell, roots []int) {
	t.Helper()
	for i, copies := range []func([]impl.Cell, []int) ([]impl.Cell, []int, bool){impl.CopyGraph, impl.CollectGraph, impl.TidyGraph} {
		if h, tops, ok := copies(g, roots); ok || len(h) != 0 || len(tops) != 0 {
			t.Errorf("the function %d of %v and %v = %v, %v, %v", i, g, roots, h, tops, ok)
		}
	}
	if order := impl.CopyOrder(g, roots); len(order) != 0 {
		t.Errorf("CopyOrder(%v, %v) = %v", g, roots, order)
	}
	if live, ok := impl.LiveCells(g, roots); ok || live != 0 {
		t.Errorf("LiveCells(%v, %v) = %d, %v", g, roots, live, ok)
	}
}

// checkNoCollection checks all functions of the chapter with a graph that is not valid.
func checkNoCollection(t *testing.T, g []impl.Cell) {
	t.Helper()
	for _, roots := range [][]int{nil, {}, {0}, {len(g) - 1}, {0, 0}, {-1}, make([]int, 21)} {
		checkNoCopy(t, g, roots)
	}
	if h, many, ok := impl.SelectGraph(g); ok || many != 0 || len(h) != 0 {
		t.Errorf("SelectGraph(%v) = %v, %d, %v", g, h, many, ok)
	}
	right := graphOf(t, "num 1;")
	if impl.SameFrom(g, 0, g, 0) || impl.SameFrom(g, 0, right, 0) || impl.SameFrom(right, 0, g, 0) {
		t.Errorf("SameFrom accepts %v", g)
	}
}

func TestInvalidCollections(t *testing.T) {
	for _, wrong := range wrongCells() {
		// The first cell does not reach what is wrong.
		g := graphOf(t, "pair #1 #1;num 1;fst #0;ind #2;")
		for at := range len(g) + 1 {
			checkNoCollection(t, slices.Insert(slices.Clone(g), at, wrong))
		}
		checkNoCollection(t, []impl.Cell{wrong})
	}
	checkNoCollection(t, numberCells(impl.MaxCells+1))
	checkNoCollection(t, indChain(impl.MaxCells))
	checkNoCollection(t, numberCells(1000000))
}

func TestInvalidRoots(t *testing.T) {
	for _, g := range [][]impl.Cell{nil, {}, graphOf(t, "num 1;"), graphOf(t, "pair #1 #1;num 1;fst #0;ind #2;"), graphOf(t, everyKind), numberCells(impl.MaxCells)} {
		for _, wrong := range []int{-1, -2, len(g), len(g) + 1, impl.MaxCells, 1<<63 - 1, -1 << 63} {
			checkNoCopy(t, g, []int{wrong})
			checkNoCopy(t, g, []int{wrong, 0})
			checkNoCopy(t, g, []int{0, wrong})
			checkNoCopy(t, g, append(make([]int, 19), wrong))
		}
	}
	// Without cells, there are no roots, but nothing is a graph, too.
	checkCopies(t, rand.New(rand.NewSource(56)), nil, nil)
	checkCopies(t, rand.New(rand.NewSource(57)), []impl.Cell{}, []int{})
	if h, many, ok := impl.SelectGraph(nil); !ok || many != 0 || len(h) != 0 {
		t.Errorf("SelectGraph of no cells = %v, %d, %v", h, many, ok)
	}
}

func TestCopiesShareNoMemory(t *testing.T) {
	const text = "num 1;pair #0 #0;fst #1;ind #2;pair #3 #1;add #0 #0;"
	r := rand.New(rand.NewSource(58))
	room := append(graphOf(t, text), cell(33, 1))
	g := room[:len(room)-1]
	kids := append(append([]int{}, g[4].Kids...), 55)
	g[4].Kids = kids[:2]
	g[0].Kids = []int{66}[:0]
	roots := append([]int{4, 5, 4}, 77)
	run := func() ([][]impl.Cell, [][]int) {
		a, aTops, _ := impl.CopyGraph(g, roots[:3])
		b, bTops, _ := impl.CollectGraph(g, roots[:3])
		c, cTops, _ := impl.TidyGraph(g, roots[:3])
		d, _, _ := impl.SelectGraph(g)
		return [][]impl.Cell{a, b, c, d}, [][]int{aTops, bTops, cTops, impl.CopyOrder(g, roots[:3])}
	}
	graphs, lists := run()
	for _, h := range graphs {
		before := cloneGraph(h)
		for i := range h {
			_ = append(h[i].Kids, 44)
		}
		checkGraph(t, "a copy", h, before)
		spoilGraph(h)
	}
	for _, list := range lists {
		list = list[:cap(list)]
		for i := range list {
			list[i] = -5
		}
	}
	if room[len(g)].Op != 33 || kids[2] != 55 || g[0].Kids[:1][0] != 66 || !slices.Equal(roots, []int{4, 5, 4, 77}) {
		t.Error("a result shares memory with an argument")
	}
	checkGraph(t, "the argument", g, graphOf(t, text))
	graphs, lists = run()
	saved := cloneGraph(graphs[0])
	savedTops := slices.Clone(lists[0])
	checkCopies(t, r, g, roots[:3])
	spoilGraph(room)
	roots[0] = 9
	checkGraph(t, "a copy", graphs[0], saved)
	checkInts(t, lists[0], savedTops)
}
