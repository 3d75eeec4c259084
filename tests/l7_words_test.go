package tests

import (
	"fmt"
	"math/rand"
	"slices"
	"testing"

	"loop.example/graphreducer/impl"
)

// packCases are graphs with their words and addresses.
var packCases = []struct {
	graph  string
	words  []int
	starts []int
}{
	{"", nil, nil},
	{"num 0;", []int{2, 0}, []int{0}},
	{"num 999;", []int{2, 999}, []int{0}},
	{"fun 5;", []int{3, 5}, []int{0}},
	{"ind #0;", []int{11, 0}, []int{0}},
	{"pair #0 #0;", []int{5, 0, 0}, []int{0}},
	{"num 1;pair #0 #0;", []int{2, 1, 5, 0, 0}, []int{0, 2}},
	{"pair #1 #1;num 1;", []int{5, 3, 3, 2, 1}, []int{0, 3}},
	// A number, or a function, is no address, and no first word of a cell.
	{"num 3;fun 2;num 0;", []int{2, 3, 3, 2, 2, 0}, []int{0, 2, 4}},
	{"num 5;num 11;app #1 #0;", []int{2, 5, 2, 11, 4, 2, 0}, []int{0, 2, 4}},
	// An address is the one of a cell, not its place.
	{"if #1 #2 #3;fst #2;snd #3;sub #0 #1;add #3 #3;ind #4;", []int{10, 4, 6, 8, 6, 6, 7, 8, 9, 0, 4, 8, 8, 8, 11, 11}, []int{0, 4, 6, 8, 11, 14}},
	{
		everyKind,
		[]int{2, 0, 2, 999, 3, 0, 3, 5, 4, 4, 0, 5, 8, 11, 6, 11, 7, 28, 8, 14, 16, 9, 2, 30, 10, 18, 21, 24, 11, 28, 11, 24},
		[]int{0, 2, 4, 6, 8, 11, 14, 16, 18, 21, 24, 28, 30},
	},
}

func TestPackGraph(t *testing.T) {
	for _, c := range packCases {
		g := graphOf(t, c.graph)
		words, starts, ok := impl.PackGraph(g)
		if !ok || !slices.Equal(words, c.words) || !slices.Equal(starts, c.starts) {
			t.Errorf("PackGraph of %s is %v, %v, %v", c.graph, words, starts, ok)
		}
		checkPacked(t, g)
	}
}

func TestWordAt(t *testing.T) {
	words := []int{2, 4, 3, 5, 10, 0, 2, 8, 11, 4}
	for _, c := range []struct {
		at   int
		want impl.Cell
	}{{0, cell(impl.ExpNum, 4)}, {2, cell(impl.ExpGlobal, 5)}, {4, cell(impl.ExpIf, 0, 0, 2, 8)}, {8, cell(impl.ExpInd, 0, 4)}} {
		if got, ok := impl.WordAt(words, c.at); !ok || !equalGraphs([]impl.Cell{got}, []impl.Cell{c.want}) {
			t.Errorf("WordAt(%v, %d) = %v, %v", words, c.at, got, ok)
		}
	}
	// Inside of a cell, there is no other one, even if the words look like it.
	for _, at := range []int{1, 3, 5, 6, 7, 9, 10, 11, -1, -2, 1<<63 - 1, -1 << 63} {
		checkNoWordAt(t, words, at)
	}
	checkNoWordAt(t, nil, 0)
	checkNoWordAt(t, []int{3, 2, 2, 3}, 1)
}

func TestRandomWords(t *testing.T) {
	r := rand.New(rand.NewSource(71))
	for i := range 3000 {
		g := randomGraph(r, 1+r.Intn(40), allDefs, 1+r.Intn(9))
		if i%2 == 0 {
			g = pairGraph(r, 1+r.Intn(40))
		}
		before := cloneGraph(g)
		checkPacked(t, g)
		if !equalGraphs(g, before) {
			t.Fatal("PackGraph changes its argument")
		}
	}
}

// smallPacked returns the graphs of at most three cells by the text of their
// words, with numbers of values, and with kinds of these.
func smallPacked(values []int) map[string][]impl.Cell {
	packed := map[string][]impl.Cell{}
	for many := range 4 {
		var cells []impl.Cell
		for _, v := range values {
			if 0 <= v && v <= impl.MaxNumber {
				cells = append(cells, cell(impl.ExpNum, v))
			}
			if 0 <= v && v < impl.MaxDefs {
				cells = append(cells, cell(impl.ExpGlobal, v))
			}
			for first := range many {
				if v == impl.ExpFst || v == impl.ExpInd {
					cells = append(cells, cell(v, 0, first))
				}
				for second := range many {
					if v == impl.ExpApp || v == impl.ExpPair {
						cells = append(cells, cell(v, 0, first, second))
					}
				}
			}
		}
		var places []int
		for at := range cells {
			places = append(places, at)
		}
		listsOf(many, places, func(list []int) {
			if len(list) != many {
				return
			}
			var g []impl.Cell
			for _, at := range list {
				g = append(g, cells[at])
			}
			words, _ := packBy(g)
			packed[fmt.Sprint(words)] = g
		})
	}
	return packed
}

// TestSmallWords checks that short lists of words are unpacked if and only if
// they are the words of a graph.
func TestSmallWords(t *testing.T) {
	values := []int{-1, 0, 1, 2, 3, 4, 5, 6, 11, 12, 1000}
	packed := smallPacked(values)
	found := 0
	listsOf(5, values, func(words []int) {
		want, wantOk := packed[fmt.Sprint(append([]int{}, words...))]
		g, ok := impl.UnpackWords(words)
		if ok != wantOk || !equalGraphs(g, want) {
			t.Fatalf("UnpackWords(%v) = %v, %v", words, g, ok)
		}
		if !ok {
			return
		}
		found++
		if again, _, ok := impl.PackGraph(g); !ok || !slices.Equal(again, words) {
			t.Fatalf("PackGraph(%v) = %v, %v", g, again, ok)
		}
	})
	if found < 500 {
		t.Errorf("%d lists of words are those of graphs", found)
	}
}

func TestInvalidWords(t *testing.T) {
	for _, words := range [][]int{
		// No cell has this kind.
		{0}, {1}, {12}, {-1}, {0, 0}, {1, 0}, {12, 0}, {13, 0, 0}, {-1, 0}, {-3, 0}, {1 << 62, 0}, {-1 << 63, 0}, {2, 1, 1, 0}, {2, 1, -1, 0},
		// Words are missing.
		{2}, {3}, {11}, {4, 0}, {5, 0}, {6}, {7}, {8, 0}, {9, 0}, {10, 0, 0}, {10}, {2, 1, 2}, {2, 1, 5, 0}, {2, 1, 10, 0, 0},
		// Words are left over.
		{2, 1, 0}, {5, 0, 0, 0}, {11, 0, 0}, {2, 1, 2, 1, 1},
		// Numbers and functions.
		{2, -1}, {2, 1000}, {2, 1 << 62}, {2, -1 << 63}, {3, -1}, {3, 6}, {3, 1 << 62}, {2, 1, 2, 1000},
		// Addresses inside of a cell, or of none.
		{11, 1}, {11, 2}, {11, -1}, {11, 1 << 62}, {11, -1 << 63}, {5, 0, 1}, {5, 1, 0}, {5, 0, 3}, {2, 1, 5, 0, 1}, {2, 1, 5, 1, 0}, {2, 2, 5, 0, 1},
		{2, 1, 5, 0, 3}, {2, 1, 10, 0, 0, 5}, {2, 1, 10, 0, 4, 0}, {2, 1, 10, 3, 0, 0}, {2, 1, 11, 4}, {3, 3, 11, 1}, {3, 2, 2, 3, 6, 1},
	} {
		checkNoWords(t, words)
	}
	for op := impl.ExpApp; op <= impl.ExpInd; op++ {
		for at := range kidsOfCell(op) {
			for wrong := -2; wrong < 9; wrong++ {
				words := append([]int{2, 7, op}, make([]int, kidsOfCell(op))...)
				words[3+at] = wrong
				if wrong == 0 || wrong == 2 {
					if _, ok := impl.UnpackWords(words); !ok {
						t.Errorf("UnpackWords(%v) is false", words)
					}
					continue
				}
				checkNoWords(t, words)
			}
		}
	}
}

func TestInvalidGraphsAreNotPacked(t *testing.T) {
	for _, wrong := range wrongCells() {
		g := graphOf(t, "pair #1 #1;num 1;fst #0;ind #2;")
		for at := range len(g) + 1 {
			checkNoPack(t, slices.Insert(slices.Clone(g), at, wrong))
		}
		checkNoPack(t, []impl.Cell{wrong})
	}
	checkNoPack(t, numberCells(impl.MaxCells+1))
	checkNoPack(t, numberCells(1000000))
}

func checkNoPack(t *testing.T, g []impl.Cell) {
	t.Helper()
	if words, starts, ok := impl.PackGraph(g); ok || len(words) != 0 || len(starts) != 0 {
		t.Errorf("PackGraph(%v) = %v, %v, %v", g, words, starts, ok)
	}
}

func TestManyWords(t *testing.T) {
	var g []impl.Cell
	for at := range impl.MaxCells {
		g = append(g, cell(impl.ExpIf, 0, impl.MaxCells-1, at, 0))
	}
	checkPacked(t, g)
	words, _, _ := impl.PackGraph(g)
	if len(words) != impl.MaxWords {
		t.Errorf("%d cells have %d words", impl.MaxCells, len(words))
	}
	// One more word, cell, or both.
	checkNoWords(t, append(slices.Clone(words), 0))
	checkNoWords(t, append(slices.Clone(words), 10, 0, 0, 0))
	checkPacked(t, numberCells(impl.MaxCells))
	words, _, _ = impl.PackGraph(numberCells(impl.MaxCells))
	checkNoWords(t, append(words, 2, 0))
	checkNoWords(t, slices.Repeat([]int{2, 1}, impl.MaxWords/2))
	checkNoWords(t, slices.Repeat([]int{2, 1}, impl.MaxWords/2+1))
	checkNoWords(t, make([]int, 1000000))
	checkNoWords(t, slices.Repeat([]int{2, 1}, 1000000))
	checkPacked(t, indChain(impl.MaxCells-1))
}

func TestNoWords(t *testing.T) {
	for _, words := range [][]int{nil, {}} {
		if g, ok := impl.UnpackWords(words); !ok || len(g) != 0 {
			t.Errorf("UnpackWords of no words is %v, %v", g, ok)
		}
		if list, ok := impl.AddressesOf(words); !ok || len(list) != 0 {
			t.Errorf("AddressesOf of no words is %v, %v", list, ok)
		}
		if to, tops, ok := impl.CopyWords(words, nil); !ok || len(to) != 0 || len(tops) != 0 {
			t.Errorf("CopyWords of no words is %v, %v, %v", to, tops, ok)
		}
		for _, at := range []int{-1, 0, 1} {
			checkNoWordAt(t, words, at)
			checkNoCopyWords(t, words, []int{at})
		}
	}
	checkPacked(t, nil)
	checkPacked(t, []impl.Cell{})
}
