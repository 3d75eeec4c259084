package tests

import (
	"math/rand"
	"slices"
	"testing"

	"loop.example/graphreducer/impl"
)

// place is a cell of a graph.
type place struct {
	graph string
	at    int
}

// shapes has groups of cells: two of them are the same if they stand in one group.
var shapes = [][]place{
	{{"num 1;", 0}, {"num 2;num 1;", 1}, {"num 1;pair #0 #0;ind #1;", 0}},
	{{"num 2;", 0}, {"num 2;num 1;", 0}},
	{{"fun 1;", 0}},
	{{"fun 5;", 0}, {"app #1 #1;fun 5;", 1}},
	// Shared cells are not the same as equal ones, nor the other way round.
	{{"num 1;pair #0 #0;", 1}, {"pair #2 #2;num 5;num 1;", 0}},
	{{"num 1;num 1;pair #0 #1;", 2}, {"num 1;num 1;pair #1 #0;", 2}, {"num 3;pair #2 #3;num 1;num 1;", 1}},
	// Cells that stand for others are not the same as these.
	{{"num 1;ind #0;", 1}, {"ind #1;num 1;", 0}},
	{{"num 1;ind #0;ind #1;", 2}},
	{{"num 1;ind #0;pair #0 #1;", 2}},
	{{"num 1;ind #0;pair #1 #0;", 2}},
	{{"num 1;ind #0;pair #1 #1;", 2}},
	// Parts and kinds make a difference, and their order.
	{{"num 1;num 2;pair #0 #1;", 2}, {"num 2;num 1;pair #1 #0;", 2}},
	{{"num 1;num 2;pair #1 #0;", 2}, {"pair #1 #2;num 2;num 1;", 0}},
	{{"num 1;num 2;app #1 #0;", 2}},
	{{"num 1;num 2;add #1 #0;", 2}},
	{{"num 1;num 2;sub #1 #0;", 2}},
	{{"num 1;num 2;if #1 #0 #0;", 2}},
	{{"num 1;fst #0;", 1}},
	{{"num 1;snd #0;", 1}},
	// Nothing is selected or evaluated.
	{{"num 1;pair #0 #0;fst #1;", 2}, {"fst #2;num 1;pair #1 #1;", 0}},
	// Circles, which differ by their cells.
	{{"ind #0;", 0}, {"num 1;ind #1;ind #1;", 1}},
	{{"ind #1;ind #0;", 0}, {"ind #1;ind #0;", 1}},
	{{"ind #1;ind #1;", 0}},
	{{"pair #0 #0;", 0}, {"num 1;pair #1 #1;fst #1;", 1}},
	{{"pair #0 #1;pair #1 #0;", 0}, {"pair #0 #1;pair #1 #0;", 1}},
	{{"pair #0 #1;pair #0 #1;", 0}},
	{{"pair #0 #1;pair #0 #1;", 1}},
	{{"pair #1 #1;pair #0 #0;", 0}, {"pair #1 #1;pair #0 #0;", 1}},
}

func TestSameFrom(t *testing.T) {
	for i, one := range shapes {
		for j, other := range shapes {
			for _, x := range one {
				for _, y := range other {
					if impl.SameFrom(graphOf(t, x.graph), x.at, graphOf(t, y.graph), y.at) != (i == j) {
						t.Errorf("SameFrom(%v, %v) is %v", x, y, i != j)
					}
				}
			}
		}
	}
}

func TestSameFromInvalid(t *testing.T) {
	g := graphOf(t, "num 1;pair #0 #0;")
	for _, h := range [][]impl.Cell{nil, {}, g} {
		for _, wrong := range []int{-1, -2, len(h), len(h) + 1, impl.MaxCells, 1<<63 - 1, -1 << 63} {
			if impl.SameFrom(h, wrong, g, 0) || impl.SameFrom(g, 0, h, wrong) || impl.SameFrom(h, wrong, h, wrong) {
				t.Errorf("SameFrom accepts the cell %d of %d", wrong, len(h))
			}
		}
	}
}

func TestSmallGraphsThatAreTheSame(t *testing.T) {
	var list [][]impl.Cell
	smallGraphs(2, func(g []impl.Cell) { list = append(list, g) })
	for _, a := range list {
		for _, b := range list {
			for x := range a {
				for y := range b {
					if impl.SameFrom(a, x, b, y) != sameBy(a, x, b, y) {
						t.Fatalf("SameFrom(%v, %d, %v, %d) is %v", a, x, b, y, !sameBy(a, x, b, y))
					}
				}
			}
		}
	}
}

// moved returns a graph with its cells in other places, and these.
func moved(r *rand.Rand, g []impl.Cell) ([]impl.Cell, []int) {
	places := r.Perm(len(g))
	h := make([]impl.Cell, len(g))
	for at, c := range g {
		h[places[at]] = cell(c.Op, c.N, slices.Clone(c.Kids)...)
		for i, k := range c.Kids {
			h[places[at]].Kids[i] = places[k]
		}
	}
	return h, places
}

func TestRandomGraphsThatAreTheSame(t *testing.T) {
	r := rand.New(rand.NewSource(61))
	same, other := 0, 0
	for i := range 6000 {
		g := randomGraph(r, 1+r.Intn(25), allDefs, 1+r.Intn(9))
		if i%2 == 0 {
			g = pairGraph(r, 1+r.Intn(25))
		}
		h, places := moved(r, g)
		for x, y := range places {
			if !impl.SameFrom(g, x, h, y) || !impl.SameFrom(h, y, g, x) {
				t.Fatalf("SameFrom(%v, %d, %v, %d) is false", g, x, h, y)
			}
			z := r.Intn(len(g))
			if impl.SameFrom(g, x, g, z) != sameBy(g, x, g, z) {
				t.Fatalf("SameFrom(%v, %d, %d) is %v", g, x, z, !sameBy(g, x, g, z))
			}
		}
		// With one operand or number changed, only what reaches it is another graph.
		if c := &h[r.Intn(len(h))]; len(c.Kids) > 0 {
			c.Kids[r.Intn(len(c.Kids))] = r.Intn(len(h))
		} else {
			c.N = r.Intn(6)
		}
		for x, y := range places {
			want := sameBy(g, x, h, y)
			if impl.SameFrom(g, x, h, y) != want {
				t.Fatalf("SameFrom(%v, %d, %v, %d) is %v", g, x, h, y, !want)
			}
			if want {
				same++
			} else {
				other++
			}
		}
	}
	if same < 5000 || other < 5000 {
		t.Errorf("%d cells are the same, and %d are not", same, other)
	}
}
