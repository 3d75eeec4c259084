package tests

import (
	"math/rand"
	"slices"
	"testing"

	"loop.example/graphreducer/impl"
)

// wordCopies are heaps with what is copied of them from some addresses.
var wordCopies = []struct {
	words []int
	roots []int
	to    []int
	tops  []int
}{
	{nil, nil, nil, nil},
	{[]int{2, 1}, nil, nil, nil},
	{[]int{2, 1, 5, 0, 0}, []int{2}, []int{5, 3, 3, 2, 1}, []int{0}},
	// What cannot be reached is left out.
	{[]int{2, 1, 2, 2, 2, 3}, []int{2}, []int{2, 2}, []int{0}},
	{[]int{2, 1, 5, 0, 0, 6, 2}, []int{2}, []int{5, 3, 3, 2, 1}, []int{0}},
	// A cell that is forwarded twice, by roots, by a cell, and by both.
	{[]int{2, 1, 2, 2}, []int{2, 0, 2, 2}, []int{2, 2, 2, 1}, []int{0, 2, 0, 0}},
	{[]int{2, 1, 10, 0, 0, 0}, []int{2}, []int{10, 4, 4, 4, 2, 1}, []int{0}},
	{[]int{2, 1, 6, 0, 5, 2, 0}, []int{4, 0, 2, 4}, []int{5, 5, 3, 2, 1, 6, 3}, []int{0, 3, 5, 0}},
	{[]int{2, 1, 6, 0, 7, 0, 5, 2, 4}, []int{6}, []int{5, 3, 5, 6, 7, 7, 7, 2, 1}, []int{0}},
	// A number that looks like an address, or a function, stays.
	{[]int{2, 7, 2, 0, 2, 2, 5, 4, 2}, []int{6, 0}, []int{5, 5, 7, 2, 7, 2, 2, 2, 0}, []int{0, 3}},
	{[]int{3, 0, 3, 2, 4, 2, 0}, []int{4}, []int{4, 3, 5, 3, 2, 3, 0}, []int{0}},
	// Circles, and cells that stand for others, which are copied as they are.
	{[]int{2, 9, 11, 2}, []int{2}, []int{11, 0}, []int{0}},
	{[]int{5, 3, 0, 5, 0, 3}, []int{3}, []int{5, 3, 0, 5, 0, 3}, []int{0}},
	{[]int{2, 9, 11, 0, 11, 2, 6, 4}, []int{6, 4}, []int{6, 2, 11, 4, 11, 6, 2, 9}, []int{0, 2}},
	// Words that share nothing, since they are those of two cells.
	{[]int{2, 1, 2, 1, 5, 0, 2}, []int{4}, []int{5, 3, 5, 2, 1, 2, 1}, []int{0}},
}

func TestCopyWords(t *testing.T) {
	for _, c := range wordCopies {
		to, tops, ok := impl.CopyWords(c.words, c.roots)
		if !ok || !slices.Equal(to, c.to) || !slices.Equal(tops, c.tops) {
			t.Errorf("CopyWords(%v, %v) = %v, %v, %v", c.words, c.roots, to, tops, ok)
		}
	}
}

// checkWordCopy checks that words are copied as the graph for which they stand,
// at once and by steps.
func checkWordCopy(t *testing.T, g []impl.Cell, roots []int) {
	t.Helper()
	words, starts := packBy(g)
	copied, places := copyBy(g, roots)
	want, wantStarts := packBy(copied)
	wantTops := pick(wantStarts, places)
	to, tops, ok := impl.CopyWords(words, pick(starts, roots))
	if !ok || !slices.Equal(to, want) || !slices.Equal(tops, wantTops) {
		t.Fatalf("CopyWords of\n%sfrom %v is %v, %v, %v, not %v, %v", impl.FormatGraph(g), roots, to, tops, ok, want, wantTops)
	}
	if h, ok := impl.UnpackWords(to); !ok || !equalGraphs(h, copied) {
		t.Fatalf("CopyWords(%v, %v) stands for %v, %v", words, roots, h, ok)
	}
	checkSteps(t, words, pick(starts, roots), wantStarts, want)
}

// checkSteps checks that scanning all cells one after the other makes the same
// heap, where each cell that was forwarded says where it is.
func checkSteps(t *testing.T, words []int, roots []int, ends []int, want []int) {
	t.Helper()
	from, to := words, []int(nil)
	for _, at := range roots {
		from, to, _ = forwardCell(from, to, at)
	}
	scan, ok := 0, true
	for _, start := range ends {
		if scan != start || scan >= len(to) {
			t.Fatalf("the cell at %d of %v is scanned after those before %d", start, to, scan)
		}
		checkForward(t, from, to, scan)
		from, to, scan, ok = impl.ForwardStep(from, to, scan)
		if !ok {
			t.Fatalf("ForwardStep from %v is false", words)
		}
	}
	if scan != len(to) || !slices.Equal(to, want) {
		t.Fatalf("the steps from %v make %v, not %v", words, to, want)
	}
	for at, w := range from {
		if w != words[at] && (w >= 0 || to[-w-1] != words[at]) {
			t.Fatalf("the steps from %v leave %v, and make %v", words, from, to)
		}
	}
	checkNoForward(t, from, to, scan)
}

func TestCopyingWordsIsCopyingTheGraph(t *testing.T) {
	for _, c := range copyCases {
		checkWordCopy(t, graphOf(t, c.graph), c.roots)
	}
	for many := 1; many <= 3; many++ {
		smallGraphs(many, func(g []impl.Cell) {
			for root := range g {
				checkWordCopy(t, g, []int{root})
				checkWordCopy(t, g, []int{root, many - 1})
			}
		})
	}
	r := rand.New(rand.NewSource(72))
	for i := range 3000 {
		g := randomGraph(r, 1+r.Intn(40), allDefs, 1+r.Intn(20))
		if i%2 == 0 {
			g = pairGraph(r, 1+r.Intn(40))
		}
		roots := pickRoots(r, g, 20)
		checkWordCopy(t, g, roots)
		// The same by the functions of graphs alone.
		words, starts, _ := impl.PackGraph(g)
		to, tops, _ := impl.CopyWords(words, pick(starts, roots))
		copied, places, _ := impl.CopyGraph(g, roots)
		want, wantStarts, ok := impl.PackGraph(copied)
		if !ok || !slices.Equal(to, want) || !slices.Equal(tops, pick(wantStarts, places)) {
			t.Fatalf("CopyWords(%v, %v) = %v, %v", words, roots, to, tops)
		}
	}
}

func TestCopiesOfManyWords(t *testing.T) {
	last := impl.MaxCells - 1
	checkWordCopy(t, numberCells(impl.MaxCells), []int{last, 5})
	checkWordCopy(t, indChain(last), []int{last, 0, 200})
	var g []impl.Cell
	for at := range impl.MaxCells {
		g = append(g, cell(impl.ExpIf, 0, max(at-1, 0), at/2, last-at))
	}
	words, starts := packBy(g)
	if len(words) != impl.MaxWords {
		t.Fatalf("there are %d words", len(words))
	}
	for _, root := range []int{0, 7, last} {
		checkWordCopy(t, g, []int{root, root, last})
	}
	// As many roots as there can be, and one more.
	for many := range 23 {
		roots := pick(starts, slices.Repeat([]int{last, 3}, many)[:many])
		if many > 20 {
			checkNoCopyWords(t, words, roots)
			continue
		}
		if to, tops, ok := impl.CopyWords(words, roots); !ok || len(tops) != many || many > 0 && len(to) != impl.MaxWords {
			t.Errorf("CopyWords from %d roots is %v with %d words and %v", many, ok, len(to), tops)
		}
	}
	checkNoCopyWords(t, words, make([]int, 1000000))
}

func TestInvalidRootsOfWords(t *testing.T) {
	for _, words := range [][]int{{2, 1, 5, 0, 0}, {2, 2, 5, 0, 0}, {3, 2, 2, 3, 2, 2}, {5, 0, 0, 11, 0, 2, 5}} {
		starts, ok := impl.AddressesOf(words)
		if !ok {
			t.Fatalf("AddressesOf(%v) is false", words)
		}
		wrong := []int{-1, -2, len(words), len(words) + 1, impl.MaxWords, 1<<63 - 1, -1 << 63}
		for at := range words {
			if !slices.Contains(starts, at) {
				wrong = append(wrong, at)
			}
		}
		for _, at := range wrong {
			checkNoCopyWords(t, words, []int{at})
			checkNoCopyWords(t, words, []int{0, at})
			checkNoCopyWords(t, words, []int{at, 0})
			checkNoCopyWords(t, words, append(make([]int, 19), at))
		}
	}
}

// spoilInts overwrites a list, also behind its end.
func spoilInts(list []int) {
	list = list[:cap(list)]
	for i := range list {
		list[i] = -5
	}
}

func TestWordsShareNoMemory(t *testing.T) {
	room := append(graphOf(t, "num 1;pair #0 #0;fst #1;"), cell(33, 1))
	g := room[:3]
	g[0].Kids = []int{66}[:0]
	words := []int{2, 1, 5, 0, 0, 6, 2, 77}[:7]
	roots := []int{5, 2, 5, 77}[:3]
	from := []int{2, 1, -1, 0, 0, 77}[:5]
	to := []int{5, 0, 0, 77}[:3]
	run := func() [][]int {
		a, b, _ := impl.PackGraph(g)
		c, d, _ := impl.CopyWords(words, roots)
		e, _ := impl.AddressesOf(words)
		x, _ := impl.WordAt(words, 2)
		h, i, _, _ := impl.ForwardStep(from, to, 0)
		k, l, _, _ := impl.ForwardStep(nil, []int{2, 1, 77}[:2], 0)
		return [][]int{a, b, c, d, e, x.Kids, h, i, k, l}
	}
	want := [][]int{{2, 1, 5, 0, 0, 6, 2}, {0, 2, 5}, {6, 2, 5, 5, 5, 2, 1}, {0, 2, 0}, {0, 2, 5}, {0, 0}, {-4, 1, -1, 0, 0}, {5, 3, 3, 2, 1}, nil, {2, 1}}
	for range 2 {
		lists := run()
		for i, list := range lists {
			checkInts(t, list, want[i])
			spoilInts(list)
			for k := i + 1; k < len(lists); k++ {
				checkInts(t, lists[k], want[k])
			}
		}
		h, _ := impl.UnpackWords(words)
		checkGraph(t, "UnpackWords", h, g)
		spoilGraph(h)
	}
	if room[3].Op != 33 || g[0].Kids[:1][0] != 66 || words[:8][7] != 77 || roots[:4][3] != 77 || from[:6][5] != 77 || to[:4][3] != 77 {
		t.Error("a result shares memory with an argument")
	}
	checkInts(t, words, want[0])
	checkInts(t, roots, []int{5, 2, 5})
	checkInts(t, from, []int{2, 1, -1, 0, 0})
	checkInts(t, to, []int{5, 0, 0})
	// The same list can be both heaps.
	both := []int{6, 0}
	checkForward(t, both, both, 0)
	checkInts(t, both, []int{6, 0})
	// What was returned stays when an argument is overwritten.
	lists := run()
	h, _ := impl.UnpackWords(words)
	saved := cloneGraph(h)
	for _, list := range [][]int{words, roots, from, to} {
		spoilInts(list)
	}
	spoilGraph(room)
	for i, list := range lists {
		checkInts(t, list, want[i])
	}
	checkGraph(t, "UnpackWords", h, saved)
}
