package tests

import (
	"slices"
	"testing"

	"loop.example/graphreducer/impl"
)

// sizeBy returns how many words a cell with this first word takes; 0 if there is none.
func sizeBy(op int) int {
	switch {
	case op == impl.ExpNum || op == impl.ExpGlobal:
		return 2
	case impl.ExpApp <= op && op <= impl.ExpInd:
		return 1 + kidsOfCell(op)
	}
	return 0
}

// packBy returns the words of a graph, and the addresses of its cells, each of
// which is found by adding up what is before it.
func packBy(g []impl.Cell) ([]int, []int) {
	addressBy := func(at int) int {
		sum := 0
		for _, c := range g[:at] {
			sum += sizeBy(c.Op)
		}
		return sum
	}
	var words, starts []int
	for at, c := range g {
		starts = append(starts, addressBy(at))
		words = append(words, c.Op)
		for _, k := range c.Kids {
			words = append(words, addressBy(k))
		}
		if len(c.Kids) == 0 {
			words = append(words, c.N)
		}
	}
	return words, starts
}

// pick returns the elements of list at some places.
func pick(list []int, places []int) []int {
	var picked []int
	for _, at := range places {
		picked = append(picked, list[at])
	}
	return picked
}

// forwardCell forwards a cell from a heap to another one, and returns both and
// the new address.
func forwardCell(from []int, to []int, at int) ([]int, []int, int) {
	if from[at] < 0 {
		return from, to, -from[at] - 1
	}
	from = slices.Clone(from)
	place := len(to)
	to = append(slices.Clone(to), from[at:at+sizeBy(from[at])]...)
	from[at] = -place - 1
	return from, to, place
}

// startsBy returns the addresses of the cells of words, if these are all.
func startsBy(words []int) ([]int, bool) {
	var starts []int
	at := 0
	for at < len(words) {
		size := sizeBy(words[at])
		if size == 0 {
			return nil, false
		}
		starts = append(starts, at)
		at += size
	}
	return starts, at == len(words)
}

// canForward reports whether ForwardStep takes an address of a cell.
func canForward(from []int, to []int, at int) bool {
	if at < 0 || at >= len(from) {
		return false
	}
	if from[at] < 0 {
		return from[at] >= -len(to)
	}
	size := sizeBy(from[at])
	return size > 0 && at+size <= len(from)
}

// forwardBy returns what ForwardStep returns.
func forwardBy(from []int, to []int, scan int) ([]int, []int, int, bool) {
	starts, ok := startsBy(to)
	if !ok || !slices.Contains(starts, scan) || len(from) > impl.MaxWords || len(to) > impl.MaxWords {
		return nil, nil, 0, false
	}
	end := scan + sizeBy(to[scan])
	if to[scan] == impl.ExpNum || to[scan] == impl.ExpGlobal {
		return from, to, end, true
	}
	for i := scan + 1; i < end; i++ {
		if !canForward(from, to, to[i]) {
			return nil, nil, 0, false
		}
	}
	for i := scan + 1; i < end; i++ {
		place := 0
		from, to, place = forwardCell(from, to, to[i])
		to = slices.Clone(to)
		to[i] = place
	}
	if len(to) > impl.MaxWords {
		return nil, nil, 0, false
	}
	return from, to, end, true
}

// checkForward compares ForwardStep with forwardBy, and returns whether there is a step.
func checkForward(t *testing.T, from []int, to []int, scan int) bool {
	t.Helper()
	wantFrom, wantTo, wantEnd, wantOk := forwardBy(from, to, scan)
	gotFrom, gotTo, end, ok := impl.ForwardStep(from, to, scan)
	if ok != wantOk || !slices.Equal(gotFrom, wantFrom) || !slices.Equal(gotTo, wantTo) || end != wantEnd {
		t.Fatalf("ForwardStep(%v, %v, %d) = %v, %v, %d, %v, not %v, %v, %d, %v", from, to, scan, gotFrom, gotTo, end, ok, wantFrom, wantTo, wantEnd, wantOk)
	}
	return ok
}

// checkNoForward checks that ForwardStep returns no step.
func checkNoForward(t *testing.T, from []int, to []int, scan int) {
	t.Helper()
	if gotFrom, gotTo, end, ok := impl.ForwardStep(from, to, scan); ok || len(gotFrom) != 0 || len(gotTo) != 0 || end != 0 {
		t.Errorf("ForwardStep(%v, %v, %d) = %v, %v, %d, %v", from, to, scan, gotFrom, gotTo, end, ok)
	}
}

// checkPacked checks that a graph is packed and unpacked, and that the cell at
// each address is what it was.
func checkPacked(t *testing.T, g []impl.Cell) {
	t.Helper()
	want, wantStarts := packBy(g)
	words, starts, ok := impl.PackGraph(g)
	if !ok || !slices.Equal(words, want) || !slices.Equal(starts, wantStarts) {
		t.Fatalf("PackGraph of\n%sis %v, %v, %v", impl.FormatGraph(g), words, starts, ok)
	}
	if h, ok := impl.UnpackWords(words); !ok || !equalGraphs(h, g) {
		t.Fatalf("UnpackWords(%v) = %v, %v", words, h, ok)
	}
	if list, ok := impl.AddressesOf(words); !ok || !slices.Equal(list, starts) {
		t.Fatalf("AddressesOf(%v) = %v, %v", words, list, ok)
	}
	for at := -1; at <= len(words); at++ {
		place := slices.Index(starts, at)
		c, ok := impl.WordAt(words, at)
		if ok != (place >= 0) {
			t.Fatalf("WordAt(%v, %d) is %v", words, at, ok)
		}
		var wantCell impl.Cell
		if ok {
			wantCell = cell(g[place].Op, g[place].N, pick(starts, g[place].Kids)...)
		}
		if !equalGraphs([]impl.Cell{c}, []impl.Cell{wantCell}) {
			t.Fatalf("WordAt(%v, %d) = %v", words, at, c)
		}
	}
}

// checkNoWords checks the functions of the chapter with words of no graph.
func checkNoWords(t *testing.T, words []int) {
	t.Helper()
	if g, ok := impl.UnpackWords(words); ok || len(g) != 0 {
		t.Errorf("UnpackWords(%v) = %v, %v", words, g, ok)
	}
	if list, ok := impl.AddressesOf(words); ok || len(list) != 0 {
		t.Errorf("AddressesOf(%v) = %v, %v", words, list, ok)
	}
	for _, at := range []int{0, 2, -1, len(words), 1 << 62} {
		checkNoWordAt(t, words, at)
	}
	checkNoCopyWords(t, words, nil)
	checkNoCopyWords(t, words, []int{0})
}

func checkNoWordAt(t *testing.T, words []int, at int) {
	t.Helper()
	if c, ok := impl.WordAt(words, at); ok || c.Op != 0 || c.N != 0 || len(c.Kids) != 0 {
		t.Errorf("WordAt(%v, %d) = %v, %v", words, at, c, ok)
	}
}

func checkNoCopyWords(t *testing.T, words []int, roots []int) {
	t.Helper()
	if to, tops, ok := impl.CopyWords(words, roots); ok || len(to) != 0 || len(tops) != 0 {
		t.Errorf("CopyWords(%v, %v) = %v, %v, %v", words, roots, to, tops, ok)
	}
}

// listsOf calls what with each list of at most many elements of some values.
func listsOf(many int, values []int, what func([]int)) {
	list := make([]int, 0, many)
	var extend func()
	extend = func() {
		what(list)
		if len(list) == many {
			return
		}
		for _, v := range values {
			list = append(list, v)
			extend()
			list = list[:len(list)-1]
		}
	}
	extend()
}
