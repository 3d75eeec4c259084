package tests

import (
	"math/rand"
	"slices"
	"testing"

	"loop.example/graphreducer/impl"
)

// collectCase is a graph with what is collected of it from some roots.
type collectCase struct {
	graph     string
	roots     []int
	collected string
	tops      []int
}

// withoutPairs are cases without selections from pairs, for which TidyGraph
// does the same as CollectGraph.
var withoutPairs = []collectCase{
	{"", nil, "", nil},
	{"num 1;ind #0;num 5;pair #1 #1;", nil, "", nil},
	{"num 1;ind #0;num 5;pair #1 #1;", []int{3}, "pair #1 #1;num 1;", []int{0}},
	// A root that stands for another one.
	{"num 1;ind #0;", []int{1}, "num 1;", []int{0}},
	{"num 1;ind #0;", []int{1, 0}, "num 1;", []int{0, 0}},
	{"num 1;ind #0;", []int{0, 1}, "num 1;", []int{0, 0}},
	{"num 1;ind #0;ind #1;", []int{2, 1, 2}, "num 1;", []int{0, 0, 0}},
	{"num 1;ind #3;num 2;ind #0;", []int{1, 2, 3, 0}, "num 1;num 2;", []int{0, 1, 0, 0}},
	{"num 1;num 2;pair #3 #4;ind #0;ind #1;ind #2;", []int{4, 5, 3}, "num 2;pair #2 #0;num 1;", []int{0, 1, 2}},
	// A root stands for one behind it, or for an operand of another one.
	{"ind #1;pair #0 #2;num 5;", []int{0}, "pair #0 #1;num 5;", []int{0}},
	{"ind #2;fst #0;add #1 #0;", []int{1, 0}, "fst #1;add #0 #1;", []int{0, 1}},
	// Operands that stand for others, some of them for the same one.
	{"num 1;ind #0;ind #1;add #2 #0;if #3 #2 #1;", []int{4}, "if #1 #2 #2;add #2 #2;num 1;", []int{0}},
	{"fun 0;ind #0;num 1;num 1;ind #3;app #1 #2;app #5 #4;ind #6;ind #7;", []int{8}, "app #1 #2;app #3 #4;num 1;fun 0;num 1;", []int{0}},
	{"num 1;pair #0 #0;pair #0 #0;ind #1;ind #2;pair #3 #4;", []int{5}, "pair #1 #2;pair #3 #3;pair #3 #3;num 1;", []int{0}},
	// Circles through other cells.
	{"pair #1 #1;ind #0;", []int{0}, "pair #0 #0;", []int{0}},
	{"pair #1 #1;ind #0;", []int{1}, "pair #0 #0;", []int{0}},
	{"fun 0;app #0 #2;ind #1;snd #2;", []int{3}, "snd #1;app #2 #1;fun 0;", []int{0}},
	// Circles of cells that stand for each other stay.
	{"ind #0;", []int{0}, "ind #0;", []int{0}},
	{"ind #0;", []int{0, 0}, "ind #0;", []int{0, 0}},
	{"ind #0;pair #1 #0;", []int{1, 0}, "pair #0 #1;ind #1;", []int{0, 1}},
	{"ind #1;ind #0;", []int{0}, "ind #1;ind #0;", []int{0}},
	{"ind #1;ind #0;", []int{1}, "ind #1;ind #0;", []int{0}},
	{"ind #1;ind #0;", []int{1, 0}, "ind #1;ind #0;", []int{0, 1}},
	{"ind #2;num 7;ind #3;ind #0;pair #2 #1;", []int{4, 3}, "pair #2 #3;ind #4;ind #1;num 7;ind #2;", []int{0, 1}},
	{"num 7;ind #0;ind #3;ind #2;if #1 #2 #3;", []int{4}, "if #1 #2 #3;num 7;ind #3;ind #2;", []int{0}},
	// So do cells that lead into one.
	{"ind #1;ind #1;", []int{0}, "ind #1;ind #1;", []int{0}},
	{"ind #1;ind #2;ind #3;ind #2;fst #0;", []int{4, 1}, "fst #2;ind #3;ind #1;ind #4;ind #3;", []int{0, 1}},
	{"ind #0;ind #0;ind #1;add #2 #2;", []int{3}, "add #1 #1;ind #2;ind #3;ind #3;", []int{0}},
	// No pair to select from.
	{"num 1;fst #0;snd #1;fst #3;ind #4;ind #4;snd #5;add #2 #6;", []int{7, 3}, "add #2 #3;fst #1;snd #4;snd #5;fst #6;ind #7;num 1;ind #7;", []int{0, 1}},
}

func TestCollectGraph(t *testing.T) {
	for _, c := range withoutPairs {
		g := graphOf(t, c.graph)
		h, tops, ok := impl.CollectGraph(g, c.roots)
		checkCopied(t, "CollectGraph of "+c.graph, h, tops, ok, graphOf(t, c.collected), c.tops)
	}
	// Selections stay, with their pairs.
	g := graphOf(t, "num 1;num 2;pair #0 #1;ind #2;fst #3;ind #4;")
	h, tops, ok := impl.CollectGraph(g, []int{5})
	checkCopied(t, "CollectGraph", h, tops, ok, graphOf(t, "fst #1;pair #2 #3;num 1;num 2;"), []int{0})
	g, root, _ := impl.BuildGraph(mustExpr(t, "(A (1+2))"), 1)
	h, tops, ok = impl.CollectGraph(g, []int{root})
	checkCopied(t, "CollectGraph", h, tops, ok, graphOf(t, "app #1 #2;fun 0;add #3 #4;num 1;num 2;"), []int{0})
}

func TestLongChainsAreCollected(t *testing.T) {
	last := impl.MaxCells - 1
	h, tops, ok := impl.CollectGraph(indChain(last), []int{last, 0, 200})
	checkCopied(t, "CollectGraph", h, tops, ok, []impl.Cell{cell(impl.ExpNum, 7)}, []int{0, 0, 0})
	// The longest circle, of which nothing can be left out.
	circle := indChain(last)
	circle[0] = cell(impl.ExpInd, 0, last)
	h, tops, ok = impl.CollectGraph(circle, []int{last, 0})
	if !ok || len(h) != impl.MaxCells || !slices.Equal(tops, []int{0, 1}) || h[0].Kids[0] != 2 || h[1].Kids[0] != 0 {
		t.Errorf("CollectGraph of a long circle = %v, %v, %v", h, tops, ok)
	}
	circle[0] = cell(impl.ExpInd, 0, 0)
	h, tops, ok = impl.TidyGraph(circle, []int{last})
	if !ok || len(h) != impl.MaxCells || !slices.Equal(tops, []int{0}) || h[last].Kids[0] != last {
		t.Errorf("TidyGraph of a long chain = %v, %v, %v", h, tops, ok)
	}
}

// selectCase is a graph with the selections that are changed.
type selectCase struct {
	graph string
	many  int
	after string
}

var selectCases = []selectCase{
	{"num 1;num 2;pair #0 #1;fst #2;snd #2;", 2, "num 1;num 2;pair #0 #1;ind #0;ind #1;"},
	// Through cells that stand for a pair, and to a part as it is.
	{"num 1;ind #0;pair #1 #5;ind #2;fst #3;ind #3;snd #5;", 2, "num 1;ind #0;pair #1 #5;ind #2;ind #1;ind #3;ind #5;"},
	{"fst #1;pair #2 #2;ind #3;num 4;", 1, "ind #2;pair #2 #2;ind #3;num 4;"},
	// The graph has no root: what cannot be reached is changed, too.
	{"num 1;pair #0 #0;fst #1;num 2;fst #1;", 2, "num 1;pair #0 #0;ind #0;num 2;ind #0;"},
	// Several selections from one pair, and of one part.
	{"pair #1 #2;num 1;num 2;fst #0;fst #0;snd #0;ind #5;snd #0;", 4, "pair #1 #2;num 1;num 2;ind #1;ind #1;ind #2;ind #5;ind #2;"},
	// No pair.
	{"num 1;fst #0;snd #0;fun 2;fst #3;app #3 #0;snd #5;add #0 #0;fst #7;if #0 #0 #0;snd #9;", 0, "num 1;fst #0;snd #0;fun 2;fst #3;app #3 #0;snd #5;add #0 #0;fst #7;if #0 #0 #0;snd #9;"},
	{"ind #0;fst #0;ind #3;ind #2;snd #2;", 0, "ind #0;fst #0;ind #3;ind #2;snd #2;"},
	{"fst #0;snd #1;fst #3;snd #2;fst #5;ind #4;", 0, "fst #0;snd #1;fst #3;snd #2;fst #5;ind #4;"},
	{"num 0;pair #0 #0;if #0 #1 #1;fst #2;", 0, "num 0;pair #0 #0;if #0 #1 #1;fst #2;"},
	// A selection from a selection, before and behind it.
	{"num 1;pair #0 #0;pair #1 #0;fst #2;snd #3;", 2, "num 1;pair #0 #0;pair #1 #0;ind #1;ind #0;"},
	{"snd #1;fst #2;pair #3 #4;pair #4 #5;num 1;num 2;", 2, "ind #5;ind #3;pair #3 #4;pair #4 #5;num 1;num 2;"},
	{"num 1;pair #0 #0;pair #1 #0;fst #2;ind #3;ind #4;fst #5;", 2, "num 1;pair #0 #0;pair #1 #0;ind #1;ind #3;ind #4;ind #0;"},
	// Several selections from one selection, and selections from these.
	{"num 1;pair #0 #0;pair #1 #1;pair #2 #2;fst #5;snd #6;fst #3;snd #5;snd #6;", 5, "num 1;pair #0 #0;pair #1 #1;pair #2 #2;ind #0;ind #1;ind #2;ind #0;ind #1;"},
	// A selection to another selection from which one waits, and then to a third one.
	{"fst #1;fst #2;pair #3 #3;snd #4;pair #5 #6;num 1;pair #7 #7;num 2;", 3, "ind #7;ind #3;pair #3 #3;ind #6;pair #5 #6;num 1;pair #7 #7;num 2;"},
	{"pair #1 #1;snd #2;pair #3 #3;fst #4;pair #5 #6;pair #7 #8;num 1;num 2;num 3;fst #10;fst #0;fst #9;", 4, "pair #1 #1;ind #3;pair #3 #3;ind #5;pair #5 #6;pair #7 #8;num 1;num 2;num 3;ind #7;ind #1;fst #9;"},
	// A selection from one that has a number in the end.
	{"num 1;pair #0 #0;fst #1;snd #2;", 1, "num 1;pair #0 #0;ind #0;snd #2;"},
	// A selection that is a part of its own pair, and circles that begin with a change.
	{"pair #1 #1;fst #0;", 1, "pair #1 #1;ind #1;"},
	{"pair #1 #2;fst #0;snd #0;", 2, "pair #1 #2;ind #1;ind #2;"},
	{"pair #1 #2;snd #0;fst #0;", 2, "pair #1 #2;ind #2;ind #1;"},
	{"pair #1 #1;fst #0;snd #1;", 1, "pair #1 #1;ind #1;snd #1;"},
	{"pair #0 #1;snd #0;fst #0;fst #2;snd #3;fst #4;", 4, "pair #0 #1;ind #1;ind #0;ind #0;ind #1;fst #4;"},
}

func TestSelectGraph(t *testing.T) {
	for _, c := range selectCases {
		g := graphOf(t, c.graph)
		h, many, ok := impl.SelectGraph(g)
		if !ok || many != c.many {
			t.Errorf("SelectGraph(%s) has %d changes, and is %v", c.graph, many, ok)
		}
		checkGraph(t, "SelectGraph of "+c.graph, h, graphOf(t, c.after))
		again, more, ok := impl.SelectGraph(h)
		if !ok || more != 0 {
			t.Errorf("SelectGraph(%s) has %d more changes, and is %v", c.after, more, ok)
		}
		checkGraph(t, "SelectGraph of "+c.after, again, h)
	}
	for _, c := range withoutPairs {
		g := graphOf(t, c.graph)
		h, many, ok := impl.SelectGraph(g)
		if !ok || many != 0 {
			t.Errorf("SelectGraph(%s) has %d changes, and is %v", c.graph, many, ok)
		}
		checkGraph(t, "SelectGraph of "+c.graph, h, g)
	}
}

// TestManySelections selects through as many selections and pairs as there can
// be, in several orders of their places.
func TestManySelections(t *testing.T) {
	const levels = (impl.MaxCells - 1) / 2
	up := make([]int, levels)
	for k := range up {
		up[k] = levels + 1 + k
	}
	down := slices.Clone(up)
	slices.Reverse(down)
	var mixed []int
	for _, k := range rand.New(rand.NewSource(59)).Perm(levels) {
		mixed = append(mixed, up[k])
	}
	for _, op := range []int{impl.ExpFst, impl.ExpSnd} {
		for _, places := range [][]int{up, down, mixed} {
			// Each pair has the one before it as its parts, and each selection selects from the one before it.
			g := numberCells(2*levels + 1)
			from := 0
			for at := range levels {
				g[at+1] = cell(impl.ExpPair, 0, at, at)
				from = at + 1
			}
			want := cloneGraph(g)
			for k, at := range places {
				g[at] = cell(op, 0, from)
				want[at] = cell(impl.ExpInd, 0, levels-1-k)
				from = at
			}
			h, many, ok := impl.SelectGraph(g)
			if !ok || many != levels || !equalGraphs(h, want) {
				t.Errorf("SelectGraph has %d changes, and is %v", many, ok)
			}
			h, tops, ok := impl.TidyGraph(g, []int{from})
			checkCopied(t, "TidyGraph", h, tops, ok, numberCells(1), []int{0})
		}
	}
}

func TestTidyGraph(t *testing.T) {
	for _, c := range append([]collectCase{
		{"num 1;num 2;pair #0 #1;fst #2;", []int{3}, "num 1;", []int{0}},
		{"num 1;num 2;pair #0 #1;fst #2;", []int{3, 2}, "num 1;pair #0 #2;num 2;", []int{0, 1}},
		{"num 1;ind #0;num 5;pair #1 #1;snd #3;add #4 #2;", []int{5}, "add #1 #2;num 1;num 5;", []int{0}},
		// A selection from a selection, and a root that stands for one.
		{"num 1;pair #0 #0;pair #1 #0;fst #2;snd #3;", []int{4, 3}, "num 1;pair #0 #0;", []int{0, 1}},
		{"num 1;pair #0 #0;pair #1 #0;fst #2;snd #3;ind #4;ind #5;", []int{6}, "num 1;", []int{0}},
		// A selection that is shared, or is a part of another pair.
		{"num 1;num 2;pair #0 #1;snd #2;pair #3 #3;fun 0;app #5 #4;", []int{6}, "app #1 #2;fun 0;pair #3 #3;num 2;", []int{0}},
		// Changes that close a circle of cells that stand for each other.
		{"pair #1 #1;fst #0;", []int{1}, "ind #0;", []int{0}},
		{"pair #1 #2;snd #0;fst #0;", []int{1}, "ind #1;ind #0;", []int{0}},
		{"pair #1 #2;snd #0;fst #0;", []int{0, 2}, "pair #2 #1;ind #2;ind #1;", []int{0, 1}},
		// A pair that has itself as a part, without which nothing is selected.
		{"num 1;pair #1 #0;fst #1;fst #2;snd #3;", []int{4, 3}, "num 1;pair #1 #0;", []int{0, 1}},
	}, withoutPairs...) {
		h, tops, ok := impl.TidyGraph(graphOf(t, c.graph), c.roots)
		checkCopied(t, "TidyGraph of "+c.graph, h, tops, ok, graphOf(t, c.collected), c.tops)
	}
}
