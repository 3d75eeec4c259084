package tests

import (
	"math/rand"
	"testing"

	"loop.example/graphreducer/impl"
)

// checkFollow checks FollowInd from each cell of a graph; -1 is where there is none.
func checkFollow(t *testing.T, g []impl.Cell, want ...int) {
	t.Helper()
	for at, w := range want {
		to, ok := impl.FollowInd(g, at)
		if ok != (w >= 0) || ok && to != w || !ok && to != 0 {
			t.Errorf("FollowInd(%v, %d) = %d, %v", g, at, to, ok)
		}
	}
}

func TestFollowInd(t *testing.T) {
	checkFollow(t, graphOf(t, "num 1;ind #0;ind #1;ind #2;"), 0, 0, 0, 0)
	checkFollow(t, graphOf(t, "ind #1;ind #2;num 7;pair #0 #3;ind #4;"), 2, 2, 2, 3, -1)
	// A cell that stands for itself, and circles of several cells.
	checkFollow(t, graphOf(t, "ind #0;"), -1)
	checkFollow(t, graphOf(t, "ind #0;ind #0;num 1;ind #1;"), -1, -1, 2, -1)
	checkFollow(t, graphOf(t, "ind #1;ind #2;ind #0;ind #1;fst #0;ind #4;"), -1, -1, -1, -1, 4, 4)
	// Each other kind stands for itself.
	checkFollow(t, graphOf(t, everyKind), 0, 1, 2, 3, 4, 5, 6, 7, 8, 9, 10, -1, 10)
	for op := impl.ExpApp; op < impl.ExpInd; op++ {
		checkFollow(t, []impl.Cell{cell(op, 0, make([]int, kidsOf[op])...), cell(impl.ExpInd, 0, 0)}, 0, 0)
	}
	checkFollow(t, indChain(impl.MaxCells-1), make([]int, impl.MaxCells)...)
	var circle []impl.Cell
	for i := range impl.MaxCells {
		circle = append(circle, cell(impl.ExpInd, 0, (i+impl.MaxCells-1)%impl.MaxCells))
	}
	checkFollow(t, circle, -1, -1, -1)
}

func TestCellsFrom(t *testing.T) {
	g := graphOf(t, "fun 0;num 1;num 2;add #1 #2;app #0 #3;add #3 #0;pair #3 #5;")
	for root, want := range [][]int{{0}, {1}, {2}, {1, 2, 3}, {0, 1, 2, 3, 4}, {0, 1, 2, 3, 5}, {0, 1, 2, 3, 5, 6}} {
		checkInts(t, impl.CellsFrom(g, root), want)
	}
	// A cell that stands for others is reached, and so are these.
	g = graphOf(t, "ind #2;ind #1;ind #3;num 1;pair #5 #0;pair #4 #1;")
	for root, want := range [][]int{{0, 2, 3}, {1}, {2, 3}, {3}, {0, 1, 2, 3, 4, 5}, {0, 1, 2, 3, 4, 5}} {
		checkInts(t, impl.CellsFrom(g, root), want)
	}
	// Operands behind their cells are in the ascending order, too.
	g = graphOf(t, "num 0;if #5 #2 #4;num 2;num 3;num 4;fst #1;")
	for root, want := range [][]int{{0}, {1, 2, 4, 5}, {2}, {3}, {4}, {1, 2, 4, 5}} {
		checkInts(t, impl.CellsFrom(g, root), want)
	}
	if list := impl.CellsFrom(indChain(impl.MaxCells-1), impl.MaxCells-1); len(list) != impl.MaxCells || list[0] != 0 || list[399] != 399 {
		t.Errorf("CellsFrom of many cells = %v", list)
	}
}

func TestSharedCells(t *testing.T) {
	g := graphOf(t, "fun 0;num 1;num 2;add #1 #2;app #0 #3;add #3 #0;pair #3 #5;")
	// The cell 0 is shared with 4 only, which cannot be reached from 6.
	for root, want := range [][]int{{}, {}, {}, {}, {}, {}, {3}} {
		checkInts(t, impl.SharedCells(g, root), want)
	}
	// Operands that are shared with cells that cannot be reached.
	g = graphOf(t, "num 1;fst #0;snd #0;add #1 #2;add #1 #1;ind #0;pair #3 #4;")
	for root, want := range [][]int{{}, {}, {}, {0}, {1}, {}, {0, 1}} {
		checkInts(t, impl.SharedCells(g, root), want)
	}
	// Operands of the same cell, and of cells that stand for others.
	checkInts(t, impl.SharedCells(graphOf(t, "num 1;pair #0 #0;"), 1), []int{0})
	checkInts(t, impl.SharedCells(graphOf(t, "num 1;if #0 #0 #0;"), 1), []int{0})
	checkInts(t, impl.SharedCells(graphOf(t, "num 1;ind #0;pair #0 #1;"), 2), []int{0})
	checkInts(t, impl.SharedCells(graphOf(t, "num 1;ind #0;pair #1 #1;"), 2), []int{1})
	// The root is shared if it stands twice among operands, but not by being the root.
	checkInts(t, impl.SharedCells(graphOf(t, "ind #0;"), 0), nil)
	checkInts(t, impl.SharedCells(graphOf(t, "pair #0 #0;"), 0), []int{0})
	checkInts(t, impl.SharedCells(graphOf(t, "num 1;pair #0 #1;"), 1), nil)
	checkInts(t, impl.SharedCells(graphOf(t, "ind #0;fst #0;"), 1), []int{0})
	checkInts(t, impl.SharedCells(graphOf(t, "ind #0;fst #0;"), 0), nil)
	checkInts(t, impl.SharedCells(graphOf(t, "pair #1 #2;fst #0;snd #0;"), 1), []int{0})
}

// reachedFrom has, for each cell and each other one, whether it is reached, by passing through each one in turn.
func reachedFrom(g []impl.Cell) [][]bool {
	reached := make([][]bool, len(g))
	for at, c := range g {
		reached[at] = make([]bool, len(g))
		reached[at][at] = true
		for _, k := range c.Kids {
			reached[at][k] = true
		}
	}
	for through := range g {
		for from := range g {
			for to := range g {
				reached[from][to] = reached[from][to] || reached[from][through] && reached[through][to]
			}
		}
	}
	return reached
}

func TestRandomReach(t *testing.T) {
	r := rand.New(rand.NewSource(26))
	for range 1000 {
		g := randomGraph(r, 1+r.Intn(25), allDefs, 1+r.Intn(12))
		before := cloneGraph(g)
		for root, reached := range reachedFrom(g) {
			var cells, shared []int
			uses := map[int]int{}
			for at, c := range g {
				if !reached[at] {
					continue
				}
				cells = append(cells, at)
				for _, k := range c.Kids {
					uses[k]++
				}
			}
			for _, at := range cells {
				if uses[at] > 1 {
					shared = append(shared, at)
				}
			}
			checkInts(t, impl.CellsFrom(g, root), cells)
			checkInts(t, impl.SharedCells(g, root), shared)
			checkFollowed(t, g, root)
		}
		if !equalGraphs(g, before) {
			t.Fatal("a function changes its argument")
		}
	}
}

// checkFollowed checks FollowInd with a list of the cells that were seen before.
func checkFollowed(t *testing.T, g []impl.Cell, at int) {
	t.Helper()
	seen := map[int]bool{}
	to := at
	for g[to].Op == impl.ExpInd && !seen[to] {
		seen[to] = true
		to = g[to].Kids[0]
	}
	got, ok := impl.FollowInd(g, at)
	if ok == seen[to] || ok && got != to || !ok && got != 0 {
		t.Errorf("FollowInd(%v, %d) = %d, %v", g, at, got, ok)
	}
}

func TestListsOfCellsShareNoMemory(t *testing.T) {
	const text = "num 1;pair #0 #0;ind #1;pair #2 #2;"
	g := graphOf(t, text)
	for range 2 {
		cells, shared := impl.CellsFrom(g, 3), impl.SharedCells(g, 3)
		checkInts(t, cells, []int{0, 1, 2, 3})
		checkInts(t, shared, []int{0, 2})
		for i := range cells {
			cells[i] = -5
		}
		for i := range shared {
			shared[i] = -5
		}
	}
	if !equalGraphs(g, graphOf(t, text)) {
		t.Error("a list of cells shares memory with the graph")
	}
}
