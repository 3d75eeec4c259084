package tests

import (
	"math/rand"
	"slices"
	"testing"

	"loop.example/graphreducer/impl"
)

// forwardCases are steps with both heaps after them.
var forwardCases = []struct {
	from, to  []int
	scan      int
	fromAfter []int
	toAfter   []int
	end       int
}{
	{[]int{2, 1, -1, 0, 0}, []int{5, 0, 0}, 0, []int{-4, 1, -1, 0, 0}, []int{5, 3, 3, 2, 1}, 3},
	// A number or a function is no address, whatever it is.
	{[]int{2, 1}, []int{2, 0}, 0, []int{2, 1}, []int{2, 0}, 2},
	{[]int{2, 1}, []int{3, 0, 2, 0}, 2, []int{2, 1}, []int{3, 0, 2, 0}, 4},
	{nil, []int{3, 0}, 0, nil, []int{3, 0}, 2},
	{nil, []int{2, -7}, 0, nil, []int{2, -7}, 2},
	{nil, []int{2, 1 << 62, 3, 6}, 2, nil, []int{2, 1 << 62, 3, 6}, 4},
	// A cell that is forwarded twice has one copy.
	{[]int{3, 4}, []int{10, 0, 0, 0}, 0, []int{-5, 4}, []int{10, 4, 4, 4, 3, 4}, 4},
	{[]int{2, 7, 2, 8}, []int{10, 2, 0, 2}, 0, []int{-7, 7, -5, 8}, []int{10, 4, 6, 4, 2, 8, 2, 7}, 4},
	// A cell that was forwarded before is not copied, wherever it is.
	{[]int{-1, 9}, []int{6, 0}, 0, []int{-1, 9}, []int{6, 0}, 2},
	{[]int{-2}, []int{6, 0}, 0, []int{-2}, []int{6, 1}, 2},
	{[]int{-3, 0}, []int{2, 9, 7, 0}, 2, []int{-3, 0}, []int{2, 9, 7, 2}, 4},
	{[]int{2, 9, -1}, []int{5, 2, 0}, 0, []int{-4, 9, -1}, []int{5, 0, 3, 2, 9}, 3},
	{[]int{2, 9, -1}, []int{5, 0, 2}, 0, []int{-4, 9, -1}, []int{5, 3, 0, 2, 9}, 3},
	// Only the cell at scan is scanned, and others have any words behind the first one.
	{[]int{2, 7}, []int{5, -9, 4000, 6, 0}, 3, []int{-6, 7}, []int{5, -9, 4000, 6, 5, 2, 7}, 5},
	{[]int{2, 7}, []int{6, 0, 6, 0}, 0, []int{-5, 7}, []int{6, 4, 6, 0, 2, 7}, 2},
	{[]int{2, 7, 11, 0}, []int{6, 2, 2, 0}, 0, []int{2, 7, -5, 0}, []int{6, 4, 2, 0, 11, 0}, 2},
	// What is copied is not looked at, and what is not forwarded can be anything.
	{[]int{99, 5, -70, 1 << 62, -1 << 63}, []int{11, 1}, 0, []int{99, -3, -70, 1 << 62, -1 << 63}, []int{11, 2, 5, -70, 1 << 62}, 2},
	{[]int{2, 1000, 3, 6}, []int{5, 0, 2}, 0, []int{-4, 1000, -6, 6}, []int{5, 3, 5, 2, 1000, 3, 6}, 3},
	// An address can be inside of a cell if the words look like another one.
	{[]int{5, 2, 1}, []int{5, 0, 1}, 0, []int{-4, -7, 1}, []int{5, 3, 6, 5, 2, 1, 2, 1}, 3},
	{[]int{5, 2, 1}, []int{5, 1, 0}, 0, []int{-6, -4, 1}, []int{5, 3, 5, 2, 1, 5, -4, 1}, 3},
}

func TestForwardStep(t *testing.T) {
	for _, c := range forwardCases {
		from, to, end, ok := impl.ForwardStep(c.from, c.to, c.scan)
		if !ok || !slices.Equal(from, c.fromAfter) || !slices.Equal(to, c.toAfter) || end != c.end {
			t.Errorf("ForwardStep(%v, %v, %d) = %v, %v, %d, %v", c.from, c.to, c.scan, from, to, end, ok)
		}
		checkForward(t, c.from, c.to, c.scan)
	}
}

func TestForwardStepOfEachKind(t *testing.T) {
	for op := impl.ExpApp; op <= impl.ExpInd; op++ {
		for kind := impl.ExpNum; kind <= impl.ExpInd; kind++ {
			from := append([]int{kind}, 8, 9, 10)[:sizeBy(kind)]
			to := append([]int{op}, make([]int, kidsOfCell(op))...)
			if !checkForward(t, from, to, 0) {
				t.Errorf("a cell of kind %d cannot be forwarded", kind)
			}
			// All words but the last one are not enough.
			checkNoForward(t, from[:len(from)-1], to, 0)
			if checkForward(t, from, to[:len(to)-1], 0) {
				t.Errorf("ForwardStep scans %v", to[:len(to)-1])
			}
		}
	}
}

func TestInvalidForwardSteps(t *testing.T) {
	for _, c := range []struct {
		from, to []int
		scan     int
	}{
		// There is no cell at scan.
		{nil, nil, 0}, {[]int{2, 1}, nil, 0}, {[]int{2, 1}, []int{2, 1}, 1}, {[]int{2, 1}, []int{2, 1}, 2}, {[]int{2, 1}, []int{2, 1}, -1},
		{[]int{2, 1}, []int{2, 1}, 1<<63 - 1}, {[]int{2, 1}, []int{2, 1}, -1 << 63}, {[]int{2, 1}, []int{2, 2, 2, 2}, 1}, {[]int{2, 1}, []int{10, 0, 2, 0}, 2},
		// There is something else than cells.
		{[]int{2, 1}, []int{1, 0}, 0}, {[]int{2, 1}, []int{12, 0}, 0}, {[]int{2, 1}, []int{0, 0}, 0}, {[]int{2, 1}, []int{-1, 0}, 0}, {[]int{2, 1}, []int{5, 0}, 0},
		{[]int{2, 1}, []int{2, 0, 1, 0}, 0}, {[]int{2, 1}, []int{2, 0, 2}, 0}, {[]int{2, 1}, []int{1, 0, 2, 0}, 2}, {[]int{2, 1}, []int{2, 0, 12, 0}, 0},
		{[]int{2, 1}, []int{2, 0, -1, 0}, 0}, {[]int{2, 1}, []int{6, 0, 10, 0, 0}, 0}, {[]int{2, 1}, []int{0}, 0}, {[]int{2, 1}, []int{1 << 62, 0}, 0}, {[]int{2, 1}, []int{-1 << 63, 0}, 0},
		// An address is no index.
		{nil, []int{6, 0}, 0}, {[]int{2, 1}, []int{6, 2}, 0}, {[]int{2, 1}, []int{6, -1}, 0}, {[]int{2, 1}, []int{6, 1 << 62}, 0}, {[]int{2, 1}, []int{6, -1 << 63}, 0},
		{[]int{2, 1}, []int{5, 0, 2}, 0}, {[]int{2, 1}, []int{5, 2, 0}, 0}, {[]int{2, 1}, []int{10, 0, 0, 2}, 0}, {[]int{2, 1}, []int{10, 0, -1, 0}, 0},
		// A word is no first word of a kind of cell.
		{[]int{0, 1}, []int{6, 0}, 0}, {[]int{1, 1}, []int{6, 0}, 0}, {[]int{12, 1}, []int{6, 0}, 0}, {[]int{2, 1}, []int{6, 1}, 0}, {[]int{1 << 62, 1}, []int{6, 0}, 0},
		{[]int{2, 1, 0, 0}, []int{5, 0, 2}, 0}, {[]int{2, 1, 0, 0}, []int{5, 2, 0}, 0},
		// Its cell has words behind the end.
		{[]int{2}, []int{6, 0}, 0}, {[]int{5, 0}, []int{6, 0}, 0}, {[]int{2, 2}, []int{6, 1}, 0}, {[]int{0, 0, 10, 0, 0}, []int{6, 2}, 0}, {[]int{2, 1, 11}, []int{5, 0, 2}, 0},
		// A word is too small for a place in the heap as it is before the step.
		{[]int{-3, 0}, []int{6, 0}, 0}, {[]int{-1 << 63, 0}, []int{6, 0}, 0}, {[]int{-4, 0}, []int{5, 0, 0}, 0}, {[]int{2, 1, -4}, []int{5, 0, 2}, 0}, {[]int{2, 1, -4}, []int{5, 2, 0}, 0},
	} {
		checkNoForward(t, c.from, c.to, c.scan)
		if _, _, _, ok := forwardBy(c.from, c.to, c.scan); ok {
			t.Errorf("forwardBy(%v, %v, %d) is true", c.from, c.to, c.scan)
		}
	}
}

// TestSmallForwardSteps compares all steps from short heaps.
func TestSmallForwardSteps(t *testing.T) {
	values := []int{-4, -1, 0, 1, 2, 5, 6, 12}
	steps, none := 0, 0
	listsOf(3, values, func(from []int) {
		listsOf(3, values, func(to []int) {
			for scan := -1; scan <= len(to); scan++ {
				if checkForward(t, from, to, scan) {
					steps++
				} else {
					none++
				}
			}
		})
	})
	if steps < 5000 || none < 5000 {
		t.Errorf("there are %d steps, and %d others", steps, none)
	}
}

// randomCells returns words of cells that follow each other, with addresses
// that are often those of another list.
func randomCells(r *rand.Rand, many int, other []int) []int {
	var words []int
	for range many {
		op := impl.ExpNum + r.Intn(impl.ExpInd-impl.ExpVar)
		words = append(words, op)
		for range sizeBy(op) - 1 {
			words = append(words, r.Intn(len(other)+1))
		}
	}
	return words
}

func TestRandomForwardSteps(t *testing.T) {
	r := rand.New(rand.NewSource(73))
	steps := 0
	for range 20000 {
		var from []int
		for range r.Intn(40) {
			from = append(from, r.Intn(22)-8)
		}
		to := randomCells(r, 1+r.Intn(6), from)
		starts, _ := startsBy(to)
		fromBefore, toBefore := slices.Clone(from), slices.Clone(to)
		for _, scan := range starts {
			if checkForward(t, from, to, scan) {
				steps++
			}
		}
		if !slices.Equal(from, fromBefore) || !slices.Equal(to, toBefore) {
			t.Fatal("ForwardStep changes its arguments")
		}
	}
	if steps < 5000 {
		t.Errorf("there are %d steps", steps)
	}
}

// TestForwardStepLimits has heaps of about as many words as there can be.
func TestForwardStepLimits(t *testing.T) {
	numbers := func(many int) []int { return slices.Repeat([]int{2, 1}, many) }
	full := numbers(impl.MaxWords / 2)
	// There can be more cells than a graph has.
	for _, scan := range []int{0, impl.MaxWords - 2} {
		if !checkForward(t, full, full, scan) {
			t.Error("ForwardStep refuses all words")
		}
		checkNoForward(t, append(slices.Clone(full), 0), full, scan)
		checkNoForward(t, full, append(slices.Clone(full), 2, 0), scan)
		checkNoForward(t, full, append(slices.Clone(full[2:]), 5, 0, 0), scan)
		checkNoForward(t, numbers(1000000), full, scan)
		checkNoForward(t, full, numbers(1000000), scan)
	}
	from := []int{10, 0, 0, 0, 5, 0, 0, 2, 1, 2, 1, -5}
	for _, kids := range [][]int{
		{0}, {4}, {7}, {9}, {11}, {0, 0}, {4, 4}, {7, 7}, {7, 9}, {7, 11}, {4, 7}, {11, 11}, {11, 7},
		{0, 4, 7}, {7, 7, 7}, {7, 9, 7}, {9, 7, 7}, {4, 7, 4}, {11, 11, 11}, {7, 11, 7},
	} {
		op := [...]int{1: impl.ExpFst, 2: impl.ExpPair, 3: impl.ExpIf}[len(kids)]
		for words := impl.MaxWords - 16; words <= impl.MaxWords+2; words++ {
			to := append([]int{op}, kids...)
			if (words-len(to))%2 != 0 {
				to = append(to, 5, 0, 0)
			}
			to = append(to, numbers((words-len(to))/2)...)
			if len(to) != words {
				t.Fatalf("there are %d words, not %d", len(to), words)
			}
			after := words
			for _, at := range slices.Compact(slices.Sorted(slices.Values(kids))) {
				after += max(sizeBy(from[at]), 0)
			}
			if checkForward(t, from, to, 0) != (after <= impl.MaxWords) {
				t.Errorf("the step from %d words with %v is wrong", words, kids)
			}
		}
	}
}
