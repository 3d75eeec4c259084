package tests

import (
	"math/rand"
	"slices"
	"strconv"
	"strings"
	"testing"

	"loop.example/graphreducer/impl"
)

// opOfWord has the kind of a cell for each word.
var opOfWord = map[string]int{
	"num": impl.ExpNum, "fun": impl.ExpGlobal, "app": impl.ExpApp, "pair": impl.ExpPair, "fst": impl.ExpFst, "snd": impl.ExpSnd,
	"add": impl.ExpAdd, "sub": impl.ExpSub, "if": impl.ExpIf, "ind": impl.ExpInd,
}

// kidsOfCell returns the number of operands of each kind of a cell.
func kidsOfCell(op int) int {
	if op == impl.ExpInd {
		return 1
	}
	return kidsOf[op]
}

// cell builds a cell without checking it.
func cell(op int, n int, kids ...int) impl.Cell { return impl.Cell{Op: op, N: n, Kids: kids} }

// graphOf returns the graph of a text with a semicolon behind each cell, and
// without the numbers of the cells. It checks no more than the words.
func graphOf(t *testing.T, text string) []impl.Cell {
	t.Helper()
	var g []impl.Cell
	for line := range strings.SplitSeq(strings.TrimSuffix(text, ";"), ";") {
		words := strings.Fields(line)
		if len(words) == 0 {
			continue
		}
		c := impl.Cell{Op: opOfWord[words[0]]}
		if c.Op == 0 {
			t.Fatalf("there is no cell %q", line)
		}
		for _, w := range words[1:] {
			place, isKid := strings.CutPrefix(w, "#")
			n, err := strconv.Atoi(place)
			switch {
			case err != nil:
				t.Fatalf("there is no cell %q", line)
			case isKid:
				c.Kids = append(c.Kids, n)
			default:
				c.N = n
			}
		}
		g = append(g, c)
	}
	return g
}

// numbered returns the text that FormatGraph has for the text of graphOf.
func numbered(text string) string {
	var b strings.Builder
	for line := range strings.SplitAfterSeq(text, ";") {
		if line != "" {
			b.WriteString(strconv.Itoa(strings.Count(b.String(), "\n")) + " " + strings.TrimSuffix(line, ";") + "\n")
		}
	}
	return b.String()
}

// cloneGraph returns a graph in new memory.
func cloneGraph(g []impl.Cell) []impl.Cell {
	var list []impl.Cell
	for _, c := range g {
		list = append(list, cell(c.Op, c.N, slices.Clone(c.Kids)...))
	}
	return list
}

// equalGraphs compares two graphs.
func equalGraphs(a []impl.Cell, b []impl.Cell) bool {
	if len(a) != len(b) {
		return false
	}
	for i := range a {
		if a[i].Op != b[i].Op || a[i].N != b[i].N || !slices.Equal(a[i].Kids, b[i].Kids) {
			return false
		}
	}
	return true
}

// spoilGraph overwrites a graph, also behind the ends of its parts.
func spoilGraph(g []impl.Cell) {
	for i := range g {
		kids := g[i].Kids[:cap(g[i].Kids)]
		for k := range kids {
			kids[k] = -77
		}
	}
	g = g[:cap(g)]
	for i := range g {
		g[i] = cell(-77, -77)
	}
}

// indChain returns a graph whose last cell stands for its only number, with many ExpInd between.
func indChain(many int) []impl.Cell {
	g := []impl.Cell{cell(impl.ExpNum, 7)}
	for i := range many {
		g = append(g, cell(impl.ExpInd, 0, i))
	}
	return g
}

// numberCells returns a graph of many numbers.
func numberCells(many int) []impl.Cell {
	var g []impl.Cell
	for i := range many {
		g = append(g, cell(impl.ExpNum, i%1000))
	}
	return g
}

// randomGraph returns a graph of many cells. One in so many operands is any
// cell, so that there are circles; the others come before their cell.
func randomGraph(r *rand.Rand, many int, defs int, circles int) []impl.Cell {
	g := []impl.Cell{cell(impl.ExpNum, r.Intn(impl.MaxNumber+1))}
	for len(g) < many {
		c := impl.Cell{Op: impl.ExpNum + r.Intn(impl.ExpInd-impl.ExpVar)}
		if c.Op == impl.ExpGlobal && defs > 0 {
			c.N = r.Intn(defs)
		} else if c.Op <= impl.ExpGlobal {
			c = cell(impl.ExpNum, r.Intn(impl.MaxNumber+1))
		}
		for range kidsOfCell(c.Op) {
			kid := r.Intn(len(g))
			if r.Intn(circles) == 0 {
				kid = r.Intn(many)
			}
			c.Kids = append(c.Kids, kid)
		}
		g = append(g, c)
	}
	return g
}

// wrongCells returns cells that stand in no graph, whatever its size of more than a few cells.
func wrongCells() []impl.Cell {
	list := []impl.Cell{
		{}, cell(impl.ExpVar, 0), cell(impl.ExpVar, 3), cell(0, 1), cell(-1, 0), cell(12, 0), cell(12, 0, 0), cell(1<<62, 0), cell(-1<<63, 0),
		cell(impl.ExpNum, -1), cell(impl.ExpNum, 1000), cell(impl.ExpNum, -1<<63), cell(impl.ExpNum, 1, 0), cell(impl.ExpNum, 1, 0, 0),
		cell(impl.ExpGlobal, -1), cell(impl.ExpGlobal, 6), cell(impl.ExpGlobal, 1<<62), cell(impl.ExpGlobal, 0, 0),
	}
	for op := impl.ExpApp; op <= impl.ExpInd; op++ {
		right := kidsOfCell(op)
		for many := range 6 {
			if many != right {
				list = append(list, cell(op, 0, make([]int, many)...))
			}
		}
		list = append(list, cell(op, 1, make([]int, right)...), cell(op, -1, make([]int, right)...))
		for at := range right {
			for _, kid := range []int{-1, impl.MaxCells, 1<<63 - 1, -1 << 63} {
				kids := make([]int, right)
				kids[at] = kid
				list = append(list, cell(op, 0, kids...))
			}
		}
	}
	return list
}
