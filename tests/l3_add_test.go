package tests

import (
	"math/rand"
	"testing"

	"loop.example/graphreducer/impl"
)

// checkNoAdd checks that the cells of an expression cannot be added.
func checkNoAdd(t *testing.T, g []impl.Cell, e impl.Expr, args []int, defs int) {
	t.Helper()
	if h, root, ok := impl.AddExpr(g, e, args, defs); ok || root != 0 || len(h) != 0 {
		t.Errorf("AddExpr to %d cells with %v and %d functions = %v, %d, %v", len(g), args, defs, h, root, ok)
	}
}

// checkAdd checks AddExpr with a stack, onto which the nodes put their cells.
func checkAdd(t *testing.T, g []impl.Cell, e impl.Expr, args []int, defs int) {
	t.Helper()
	want := cloneGraph(g)
	var stack []int
	for _, x := range nodesInOrder(e) {
		if x.Op == impl.ExpVar {
			stack = append(stack, args[x.N])
			continue
		}
		rest := len(stack) - len(x.Kids)
		want = append(want, cell(x.Op, x.N, append([]int{}, stack[rest:]...)...))
		stack = append(stack[:rest], len(want)-1)
	}
	h, root, ok := impl.AddExpr(g, e, args, defs)
	if !ok || root != stack[0] || !equalGraphs(h, want) {
		t.Errorf("AddExpr(%v, %v, %v, %d) = %v, %d, %v", g, e, args, defs, h, root, ok)
	}
}

// nodesInOrder returns the nodes of an expression, each one behind its operands.
func nodesInOrder(e impl.Expr) []impl.Expr {
	var list []impl.Expr
	for _, k := range e.Kids {
		list = append(list, nodesInOrder(k)...)
	}
	return append(list, e)
}

func TestBuildGraph(t *testing.T) {
	for text, want := range map[string]string{
		"7": "num 7;", "F": "fun 5;", "(A (1+2))": "fun 0;num 1;num 2;add #1 #2;app #0 #3;", "<1,1>": "num 1;num 1;pair #0 #1;",
		"~<1,2>": "num 1;num 2;pair #0 #1;fst #2;", "^B": "fun 1;snd #0;", "((1-2)-3)": "num 1;num 2;sub #0 #1;num 3;sub #2 #3;",
		"(1-(2-3))": "num 1;num 2;num 3;sub #1 #2;sub #0 #3;", "[0?(A 1):~2]": "num 0;fun 0;num 1;app #1 #2;num 2;fst #4;if #0 #3 #5;",
		"((A 1) (B 2))": "fun 0;num 1;app #0 #1;fun 1;num 2;app #3 #4;app #2 #5;",
	} {
		g, root, ok := impl.BuildGraph(mustExpr(t, text), allDefs)
		if got := impl.FormatGraph(g); !ok || got != numbered(want) || root != len(g)-1 {
			t.Errorf("BuildGraph(%s) = %q, %d, %v", text, got, root, ok)
		}
	}
}

func TestBuildGraphRefused(t *testing.T) {
	refuse := func(e impl.Expr, defs int) {
		t.Helper()
		if g, root, ok := impl.BuildGraph(e, defs); ok || root != 0 || len(g) != 0 {
			t.Errorf("BuildGraph(%v, %d) = %v, %d, %v", e, defs, g, root, ok)
		}
	}
	for _, text := range []string{"a", "d", "<1,b>", "(A a)", "[0?1:a]", "C", "(A C)", "F"} {
		refuse(mustExpr(t, text), 2)
	}
	refuse(global(0), 0)
	for _, defs := range []int{-1, 7, 1 << 62, -1 << 63} {
		refuse(number(1), defs)
		refuse(global(0), defs)
	}
	for _, wrong := range tooLargeExprs() {
		refuse(wrong, allDefs)
		refuse(node(impl.ExpFst, 0, wrong), allDefs)
	}
}

// tooLargeExprs returns expressions that are not valid, and some that are too large.
func tooLargeExprs() []impl.Expr {
	return append(wrongNodes(), fullTree(61), chain(16, number(1)), chain(1000000, number(1)), endless(impl.ExpFst), doubled(60, number(1)))
}

func TestBuildGraphOfLimits(t *testing.T) {
	for _, e := range []impl.Expr{fullTree(59), chain(1, fullTree(59)), chain(15, number(1))} {
		g, root, ok := impl.BuildGraph(e, 0)
		if !ok || len(g) != impl.SizeOf(e) || root != len(g)-1 {
			t.Errorf("BuildGraph has %d cells and %d, %v", len(g), root, ok)
		}
		if back, ok := impl.ReadGraph(g, root, 0); !ok || !equal(back, e) {
			t.Errorf("%v is read back as %v", e, back)
		}
	}
}

func TestAddExpr(t *testing.T) {
	g := graphOf(t, "fun 0;num 1;num 2;add #1 #2;app #0 #3;")
	for _, c := range []struct {
		text, added string
		args        []int
		root        int
	}{
		{"<a,(a+b)>", "add #3 #0;pair #3 #5;", []int{3, 0}, 6},
		{"a", "", []int{2}, 2}, {"d", "", []int{1, 2, 3, 4}, 4}, {"b", "", []int{4, 4}, 4}, {"5", "num 5;", nil, 5}, {"5", "num 5;", []int{0, 1, 2, 3}, 5},
		{"(b a)", "app #0 #4;", []int{4, 0}, 5}, {"<a,<a,a>>", "pair #4 #4;pair #4 #5;", []int{4}, 6}, {"[a?b:(1-c)]", "num 1;sub #5 #2;if #0 #1 #6;", []int{0, 1, 2}, 7},
		{"((B a)+(C b))", "fun 1;app #5 #3;fun 2;app #7 #3;add #6 #8;", []int{3, 3}, 9}, {"~a", "fst #4;", []int{4}, 5}, {"~^b", "snd #0;fst #5;", []int{4, 0}, 6},
	} {
		h, root, ok := impl.AddExpr(g, mustExpr(t, c.text), c.args, allDefs)
		if !ok || root != c.root || !equalGraphs(h, append(cloneGraph(g), graphOf(t, c.added)...)) {
			t.Errorf("AddExpr of %s with %v = %v, %d, %v", c.text, c.args, h, root, ok)
		}
		checkAdd(t, g, mustExpr(t, c.text), c.args, allDefs)
	}
	// What an argument stands for makes no difference, nor a circle.
	circles := graphOf(t, "ind #1;num 3;ind #2;pair #3 #3;")
	for a := range circles {
		for b := range circles {
			checkAdd(t, circles, mustExpr(t, "<(a b),[b?a:~b]>"), []int{a, b}, allDefs)
			checkAdd(t, circles, mustExpr(t, "b"), []int{a, b}, allDefs)
		}
	}
}

func TestAddExprToNoCells(t *testing.T) {
	for _, g := range [][]impl.Cell{nil, {}} {
		checkAdd(t, g, mustExpr(t, "(A (1+2))"), nil, 1)
		checkAdd(t, g, mustExpr(t, "(A (1+2))"), []int{}, 1)
		checkNoAdd(t, g, variable(0), nil, 1)
		checkNoAdd(t, g, number(1), []int{0}, 1)
		checkNoAdd(t, g, variable(0), []int{0}, 1)
	}
}

func TestAddExprRefused(t *testing.T) {
	g := graphOf(t, "fun 1;num 1;num 2;")
	// An argument has to be a cell, even if it is not used, and cannot be a new one.
	for _, wrong := range []int{-1, 3, 4, impl.MaxCells, 1<<63 - 1, -1 << 63} {
		for _, args := range [][]int{{wrong}, {wrong, 0}, {0, wrong}, {0, 1, 2, wrong}} {
			checkNoAdd(t, g, mustExpr(t, "1"), args, allDefs)
			checkNoAdd(t, g, mustExpr(t, "a"), args, allDefs)
			checkNoAdd(t, g, mustExpr(t, "<<1,2>,a>"), args, allDefs)
		}
	}
	// There are no more variables than arguments, and no more arguments than functions can have.
	for many := range 8 {
		args := make([]int, many)
		for v := range allVars {
			if many <= impl.MaxArity && v < many {
				checkAdd(t, g, variable(v), args, allDefs)
			} else {
				checkNoAdd(t, g, variable(v), args, allDefs)
				checkNoAdd(t, g, node(impl.ExpPair, 0, number(1), variable(v)), args, allDefs)
			}
		}
		if many > impl.MaxArity {
			checkNoAdd(t, g, number(1), args, allDefs)
		}
	}
	for defs := -1; defs < 9; defs++ {
		if defs < 2 || defs > impl.MaxDefs {
			checkNoAdd(t, g, number(1), nil, defs)
			continue
		}
		checkAdd(t, g, global(defs-1), nil, defs)
		checkNoAdd(t, g, global(defs), nil, defs)
		checkNoAdd(t, g, node(impl.ExpApp, 0, number(1), global(defs)), nil, defs)
	}
	for _, wrong := range tooLargeExprs() {
		checkNoAdd(t, g, wrong, []int{0, 1, 2, 0}, allDefs)
		checkNoAdd(t, g, node(impl.ExpFst, 0, wrong), []int{0, 1, 2, 0}, allDefs)
	}
}

func TestAddExprToManyCells(t *testing.T) {
	// A variable takes no cell.
	for text, takes := range map[string]int{"a": 0, "5": 1, "~a": 1, "(a+a)": 1, "(a+1)": 2, "(A <a,b>)": 3, "[a?(1+2):b]": 4} {
		for many := impl.MaxCells - 6; many <= impl.MaxCells; many++ {
			g := numberCells(many)
			if many+takes <= impl.MaxCells {
				checkAdd(t, g, mustExpr(t, text), []int{many - 1, 0}, allDefs)
			} else {
				checkNoAdd(t, g, mustExpr(t, text), []int{many - 1, 0}, allDefs)
			}
		}
		checkNoAdd(t, numberCells(impl.MaxCells+1), mustExpr(t, text), []int{0, 0}, allDefs)
	}
	checkAdd(t, numberCells(impl.MaxCells-59), fullTree(59), nil, 0)
	checkNoAdd(t, numberCells(impl.MaxCells-58), fullTree(59), nil, 0)
	checkNoAdd(t, numberCells(impl.MaxCells), fullTree(59), nil, 0)
}

func TestRandomAdds(t *testing.T) {
	r := rand.New(rand.NewSource(22))
	for range 5000 {
		g := randomGraph(r, 1+r.Intn(20), allDefs, 1+r.Intn(9))
		var args []int
		for range r.Intn(allVars + 1) {
			args = append(args, r.Intn(len(g)))
		}
		e := randomExpr(r, len(args), allDefs, 1+r.Intn(5))
		if impl.ExprValid(e, len(args), allDefs) {
			checkAdd(t, g, e, args, allDefs)
		} else {
			checkNoAdd(t, g, e, args, allDefs)
		}
	}
}

// adder adds the cells of some expression to a graph.
type adder func(g []impl.Cell, args []int) ([]impl.Cell, int, bool)

// checkAdderSharesNoMemory checks the results of an adder of (<a,5>+5).
func checkAdderSharesNoMemory(t *testing.T, add adder) {
	t.Helper()
	const text, want = "num 1;pair #0 #0;ind #1;", "num 1;pair #0 #0;ind #1;num 5;pair #1 #3;num 5;add #4 #5;"
	room := append(graphOf(t, text), cell(33, 1))
	g := room[:3]
	kids := []int{0, 0, 55}
	g[1].Kids = kids[:2]
	args := []int{1, 3, 66}
	h, root, ok := add(g, args[:1])
	if !ok || root != 6 || !equalGraphs(h, graphOf(t, want)) {
		t.Fatalf("the cells with those that are added are %v, %d, %v", h, root, ok)
	}
	again, _, _ := add(g, args[:1])
	for i := range h {
		_ = append(h[i].Kids, 44, 44)
		if !equalGraphs(h, graphOf(t, want)) {
			t.Errorf("the cell %d shares unused memory with others", i)
		}
	}
	spoilGraph(h)
	if !equalGraphs(g, graphOf(t, text)) || room[3].Op != 33 || kids[2] != 55 {
		t.Error("a result shares memory with an argument")
	}
	checkInts(t, args, []int{1, 3, 66})
	spoilGraph(g)
	args[0] = 2
	if !equalGraphs(again, graphOf(t, want)) {
		t.Error("a result shares memory with an argument or another result")
	}
}

// checkNoneAddedSharesNoMemory checks the results of an adder of a variable.
func checkNoneAddedSharesNoMemory(t *testing.T, add adder) {
	t.Helper()
	const text = "num 1;pair #0 #0;ind #1;"
	g := graphOf(t, text)
	h, root, ok := add(g, []int{1})
	other, _, _ := add(g, []int{1})
	if !ok || root != 1 || !equalGraphs(h, graphOf(t, text)) {
		t.Fatalf("the cells without new ones are %v, %d, %v", h, root, ok)
	}
	spoilGraph(h)
	if !equalGraphs(g, graphOf(t, text)) || !equalGraphs(other, graphOf(t, text)) {
		t.Error("a result without new cells shares memory")
	}
	spoilGraph(g)
	if !equalGraphs(other, graphOf(t, text)) {
		t.Error("a graph without new cells is the argument")
	}
}

func TestAddExprSharesNoMemory(t *testing.T) {
	adderOf := func(e impl.Expr) adder {
		return func(g []impl.Cell, args []int) ([]impl.Cell, int, bool) { return impl.AddExpr(g, e, args, 0) }
	}
	e := mustExpr(t, "(<a,5>+5)")
	checkAdderSharesNoMemory(t, adderOf(e))
	if !equal(e, mustExpr(t, "(<a,5>+5)")) {
		t.Error("a result of AddExpr shares memory with its expression")
	}
	checkNoneAddedSharesNoMemory(t, adderOf(variable(0)))
}
