package tests

import (
	"math/rand"
	"testing"

	"loop.example/graphreducer/impl"
)

// checkRead checks ReadGraph from each cell of a graph; "" is where there is no expression.
func checkRead(t *testing.T, text string, want ...string) {
	t.Helper()
	g := graphOf(t, text)
	for at, w := range want {
		e, ok := impl.ReadGraph(g, at, allDefs)
		if ok != (w != "") || !ok && !isZero(e) || impl.FormatExpr(e) != w {
			t.Errorf("ReadGraph(%s, %d) = %v, %v", text, at, e, ok)
		}
	}
}

func TestReadGraph(t *testing.T) {
	checkRead(t, "fun 0;num 1;num 2;add #1 #2;app #0 #3;", "A", "1", "2", "(1+2)", "(A (1+2))")
	checkRead(t, "num 3;fun 5;app #1 #0;pair #2 #0;fst #3;snd #3;add #4 #5;sub #5 #4;if #0 #6 #7;",
		"3", "F", "(F 3)", "<(F 3),3>", "~<(F 3),3>", "^<(F 3),3>", "(~<(F 3),3>+^<(F 3),3>)", "(^<(F 3),3>-~<(F 3),3>)",
		"[3?(~<(F 3),3>+^<(F 3),3>):(^<(F 3),3>-~<(F 3),3>)]")
	// Operands behind their cells, and shared ones.
	checkRead(t, "pair #1 #2;add #2 #2;num 7;", "<(7+7),7>", "(7+7)", "7")
	// Cells that stand for others, at the root and inside.
	checkRead(t, "ind #1;ind #2;num 7;pair #0 #3;", "7", "7", "7", "")
	checkRead(t, "ind #2;num 0;ind #3;app #4 #0;ind #1;", "", "0", "", "", "0")
	checkRead(t, "ind #1;pair #2 #2;ind #3;ind #4;num 5;fst #0;", "<5,5>", "<5,5>", "5", "5", "5", "~<5,5>")
}

func TestCirclesAreNotRead(t *testing.T) {
	checkRead(t, "ind #0;", "")
	checkRead(t, "ind #1;ind #0;", "", "")
	checkRead(t, "pair #0 #0;", "")
	checkRead(t, "num 1;pair #0 #1;fst #1;", "1", "", "")
	checkRead(t, "num 1;ind #1;pair #0 #1;pair #0 #0;if #0 #0 #2;", "1", "", "", "<1,1>", "")
	checkRead(t, "fst #1;snd #2;ind #0;num 4;", "", "", "", "4")
	// A circle elsewhere makes no difference.
	checkRead(t, "ind #0;pair #1 #0;num 1;add #2 #2;", "", "", "1", "(1+1)")
	var long []impl.Cell
	for i := range impl.MaxCells {
		long = append(long, cell(impl.ExpInd, 0, (i+1)%impl.MaxCells))
	}
	if e, ok := impl.ReadGraph(long, 5, 0); ok || !isZero(e) {
		t.Errorf("ReadGraph of a long circle = %v, %v", e, ok)
	}
	if e, ok := impl.ReadGraph(indChain(impl.MaxCells-1), impl.MaxCells-1, 0); !ok || !equal(e, number(7)) {
		t.Errorf("ReadGraph behind many cells = %v, %v", e, ok)
	}
}

func TestReadGraphLimits(t *testing.T) {
	// A chain of many nodes, with and without cells that stand for others between.
	for _, ind := range []bool{false, true} {
		g := graphOf(t, "num 1;")
		want := number(1)
		for many := 1; many < 20; many++ {
			e, ok := impl.ReadGraph(g, len(g)-1, 0)
			if ok != (many <= impl.MaxDepth) || ok && !equal(e, want) || !ok && !isZero(e) {
				t.Errorf("ReadGraph of a depth of %d = %v, %v", many, e, ok)
			}
			g = append(g, cell(impl.ExpFst, 0, len(g)-1))
			if ind {
				g = append(g, cell(impl.ExpInd, 0, len(g)-1))
			}
			want = chain(1, want)
		}
	}
	// A graph of an expression with 59 nodes, and some more nodes.
	g, root, _ := impl.BuildGraph(fullTree(59), 0)
	for nodes, more := range map[int]impl.Cell{60: cell(impl.ExpFst, 0, root), 61: cell(impl.ExpAdd, 0, root, 0), 119: cell(impl.ExpAdd, 0, root, root)} {
		h := append(cloneGraph(g), more)
		e, ok := impl.ReadGraph(h, len(h)-1, 0)
		if ok != (nodes <= impl.MaxNodes) || ok && impl.SizeOf(e) != nodes || !ok && !isZero(e) {
			t.Errorf("ReadGraph of %d nodes = %v, %v", nodes, e, ok)
		}
	}
}

func TestSharedCellsAreReadAgain(t *testing.T) {
	// Each cell stands for an expression of twice as many nodes as the one before.
	g := graphOf(t, "num 1;")
	want := number(1)
	for at := range impl.MaxCells {
		if at > 0 {
			g = append(g, cell(impl.ExpPair, 0, at-1, at-1))
		}
		if at <= 6 {
			size, _ := measure(want)
			e, ok := impl.ReadGraph(g, at, 0)
			if ok != (size <= impl.MaxNodes) || ok && !equal(e, want) || !ok && !isZero(e) {
				t.Errorf("ReadGraph of %d nodes = %v, %v", size, e, ok)
			}
			want = node(impl.ExpPair, 0, want, want)
		}
	}
	for _, at := range []int{16, 100, impl.MaxCells - 1} {
		if e, ok := impl.ReadGraph(g, at, 0); ok || !isZero(e) {
			t.Errorf("ReadGraph(%d) = %v, %v", at, e, ok)
		}
	}
}

// standing has the size of what a cell stands for, and its expression if this is small.
type standing struct {
	size int
	e    impl.Expr
}

// standings finds out for which expressions of small depth the cells of a graph
// stand, from those of depth 1 on; a size of 0 is where there is none.
func standings(g []impl.Cell) []standing {
	known := make([]standing, len(g))
	for range impl.MaxDepth {
		next := make([]standing, len(g))
		for at, c := range g {
			if c.Op == impl.ExpInd {
				continue
			}
			s := standing{size: 1, e: impl.Expr{Op: c.Op, N: c.N}}
			for _, k := range c.Kids {
				if known[k].size == 0 {
					s.size = 0
					break
				}
				s.size += known[k].size
				s.e.Kids = append(s.e.Kids, known[k].e)
			}
			next[at] = s
		}
		// What is passed on along cells that stand for others has no more depth.
		for range g {
			for at, c := range g {
				if c.Op == impl.ExpInd {
					next[at] = next[c.Kids[0]]
				}
			}
		}
		known = next
	}
	return known
}

func TestRandomReads(t *testing.T) {
	r := rand.New(rand.NewSource(23))
	read, refused := 0, 0
	for range 1500 {
		g := randomGraph(r, 1+r.Intn(25), allDefs, 1+r.Intn(30))
		before := cloneGraph(g)
		for at, want := range standings(g) {
			e, ok := impl.ReadGraph(g, at, allDefs)
			fits := 0 < want.size && want.size <= impl.MaxNodes
			if ok != fits || ok && !equal(e, want.e) || !ok && !isZero(e) {
				t.Fatalf("ReadGraph(%v, %d) = %v, %v", g, at, e, ok)
			}
			if ok {
				read++
			} else {
				refused++
			}
		}
		if !equalGraphs(g, before) {
			t.Fatal("ReadGraph changes its argument")
		}
	}
	if read < 1000 || refused < 1000 {
		t.Errorf("%d cells are read, and %d are not", read, refused)
	}
}

func TestExprsAreReadBack(t *testing.T) {
	r := rand.New(rand.NewSource(24))
	for range 3000 {
		defs := r.Intn(allDefs + 1)
		e := randomExpr(r, 0, defs, 1+r.Intn(6))
		if !impl.ExprValid(e, 0, defs) {
			continue
		}
		g, root, ok := impl.BuildGraph(e, defs)
		back, okBack := impl.ReadGraph(g, root, defs)
		if !ok || !okBack || !equal(back, e) || !impl.GraphValid(g, defs) {
			t.Fatalf("%s is read back as %v", impl.FormatExpr(e), back)
		}
		if len(g) != impl.SizeOf(e) || len(impl.CellsFrom(g, root)) != len(g) || len(impl.SharedCells(g, root)) != 0 {
			t.Fatalf("the graph of %s is %v", impl.FormatExpr(e), g)
		}
	}
}

func TestAddingIsSubstitution(t *testing.T) {
	r := rand.New(rand.NewSource(25))
	done, refused := 0, 0
	for range 20000 {
		g := randomGraph(r, 1+r.Intn(20), allDefs, 30)
		var args []int
		var list []impl.Expr
		readable := true
		for range r.Intn(allVars + 1) {
			at := r.Intn(len(g))
			a, ok := impl.ReadGraph(g, at, allDefs)
			readable = readable && ok
			args = append(args, at)
			list = append(list, a)
		}
		e := randomExpr(r, len(args), allDefs, 1+r.Intn(5))
		if !readable || !impl.ExprValid(e, len(args), allDefs) {
			continue
		}
		want, fits := impl.SubstExpr(e, list)
		h, root, ok := impl.AddExpr(g, e, args, allDefs)
		got, okRead := impl.ReadGraph(h, root, allDefs)
		if !ok || okRead != fits || !equal(got, want) {
			t.Fatalf("%s with %v in %v is read back as %v", impl.FormatExpr(e), args, g, got)
		}
		if fits {
			done++
		} else {
			refused++
		}
	}
	if done < 1000 || refused < 50 {
		t.Errorf("%d expressions are read back, and %d are too large", done, refused)
	}
}

func TestReadGraphSharesNoMemory(t *testing.T) {
	const text, want = "num 1;add #0 #0;pair #1 #1;ind #1;pair #2 #3;", "<<(1+1),(1+1)>,(1+1)>"
	g := graphOf(t, text)
	e, ok := impl.ReadGraph(g, 4, 0)
	again, _ := impl.ReadGraph(g, 4, 0)
	if !ok || impl.FormatExpr(e) != want {
		t.Fatalf("ReadGraph = %v, %v", e, ok)
	}
	_ = append(e.Kids[0].Kids[0].Kids, number(7))
	spoil(e.Kids[0].Kids[0])
	if impl.FormatExpr(e.Kids[0].Kids[1]) != "(1+1)" || impl.FormatExpr(e.Kids[1]) != "(1+1)" {
		t.Error("two parts of a result share memory")
	}
	spoil(e)
	if impl.FormatExpr(again) != want || !equalGraphs(g, graphOf(t, text)) {
		t.Error("a result of ReadGraph shares memory with others")
	}
}
