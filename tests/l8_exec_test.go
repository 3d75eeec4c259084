package tests

import (
	"math/rand"
	"slices"
	"testing"

	"loop.example/graphreducer/impl"
)

func TestExecCode(t *testing.T) {
	g := graphOf(t, "fun 1;num 7;pair #0 #1;ind #2;")
	for _, c := range []struct {
		code, added string
		args        []int
		root        int
	}{
		{"num5", "num 5;", nil, 4}, {"fun3", "fun 3;", nil, 4}, {"num5", "num 5;", []int{0, 1, 2, 3}, 4},
		// An argument takes no cell, wherever its cell is, and whatever it is.
		{"arg0", "", []int{2}, 2}, {"arg1", "", []int{2, 0}, 0}, {"arg3", "", []int{0, 1, 2, 3}, 3}, {"arg0", "", []int{1}, 1},
		// An argument that is used twice is the same cell; a number is not.
		{"arg0 arg0 add", "add #1 #1;", []int{1}, 4}, {"arg0 arg0 arg0 if", "if #3 #3 #3;", []int{3}, 4}, {"num7 num7 add", "num 7;num 7;add #4 #5;", nil, 6},
		{"arg0 arg0 pair arg0 app", "pair #0 #0;app #4 #0;", []int{0}, 5}, {"arg0 fst arg0 fst sub", "fst #2;fst #2;sub #4 #5;", []int{2}, 6},
		{"arg0 arg1 pair", "pair #1 #1;", []int{1, 1}, 4}, {"arg1 arg0 arg1 if", "if #2 #1 #2;", []int{1, 2}, 4},
		// The last operand is on top.
		{"arg0 arg1 app", "app #0 #1;", []int{0, 1}, 4}, {"arg1 arg0 app", "app #1 #0;", []int{0, 1}, 4}, {"arg0 arg1 sub", "sub #3 #1;", []int{3, 1}, 4},
		{"arg0 arg1 arg2 if", "if #0 #1 #2;", []int{0, 1, 2}, 4}, {"arg2 num1 arg0 if", "num 1;if #2 #4 #0;", []int{0, 1, 2}, 5},
		{"fun0 arg0 num1 add app", "fun 0;num 1;add #1 #5;app #4 #6;", []int{1}, 7}, {"num1 num2 num3 sub sub", "num 1;num 2;num 3;sub #5 #6;sub #4 #7;", nil, 8},
		{"num1 num2 sub num3 sub", "num 1;num 2;sub #4 #5;num 3;sub #6 #7;", nil, 8}, {"arg0 snd fst", "snd #3;fst #4;", []int{3}, 5},
		{"num1 arg0 num2 num3 app if", "num 1;num 2;num 3;app #5 #6;if #4 #2 #7;", []int{2}, 8},
	} {
		h, root, ok := impl.ExecCode(g, codeOf(t, c.code), c.args, allDefs)
		if !ok || root != c.root || !equalGraphs(h, append(cloneGraph(g), graphOf(t, c.added)...)) {
			t.Errorf("ExecCode of %s with %v = %v, %d, %v", c.code, c.args, h, root, ok)
		}
		if !checkExec(t, g, codeOf(t, c.code), c.args, allDefs) {
			t.Errorf("ExecCode of %s with %v is refused", c.code, c.args)
		}
	}
}

func TestExecCodeOnCircles(t *testing.T) {
	circles := graphOf(t, "ind #1;num 3;ind #2;pair #3 #3;app #4 #0;")
	for a := range circles {
		for b := range circles {
			for _, text := range []string{"arg1", "arg0 arg1 app", "arg1 arg0 fst arg1 snd if arg0 pair"} {
				if !checkExec(t, circles, codeOf(t, text), []int{a, b}, allDefs) {
					t.Errorf("%s with %d and %d is refused", text, a, b)
				}
			}
		}
	}
}

func TestExecCodeOnNoCells(t *testing.T) {
	for _, g := range [][]impl.Cell{nil, {}} {
		for _, args := range [][]int{nil, {}} {
			h, root, ok := impl.ExecCode(g, codeOf(t, "fun0 num1 num2 add app"), args, 1)
			if !ok || root != 4 || impl.FormatGraph(h) != numbered("fun 0;num 1;num 2;add #1 #2;app #0 #3;") {
				t.Errorf("ExecCode on no cells = %v, %d, %v", h, root, ok)
			}
			checkNoExec(t, g, codeOf(t, "arg0"), args, allDefs)
		}
		checkNoExec(t, g, codeOf(t, "arg0"), []int{0}, allDefs)
		checkNoExec(t, g, codeOf(t, "num1"), []int{0}, allDefs)
		checkNoExec(t, g, nil, nil, allDefs)
	}
}

func TestExecCodeRefused(t *testing.T) {
	g := graphOf(t, "fun 1;num 1;num 2;")
	// An argument has to be a cell, even if it is not used, and cannot be a new one.
	for _, wrong := range []int{-1, 3, 4, impl.MaxCells, 1<<63 - 1, -1 << 63} {
		for _, args := range [][]int{{wrong}, {wrong, 0}, {0, wrong}, {0, 1, 2, wrong}} {
			for _, text := range []string{"num1", "arg0", "num1 num2 pair arg0 pair"} {
				checkNoExec(t, g, codeOf(t, text), args, allDefs)
			}
		}
	}
	// There are no more variables than arguments, and no more arguments than functions can have.
	for many := range 8 {
		args := make([]int, many)
		for v := range allVars {
			list := []impl.Code{instruction(impl.ExpVar, v)}
			if ok := checkExec(t, g, list, args, allDefs); ok != (many <= impl.MaxArity && v < many) {
				t.Errorf("ExecCode of the argument %d with %d arguments is %v", v, many, ok)
			}
			list = append(codeOf(t, "num1"), instruction(impl.ExpVar, v), instruction(impl.ExpPair, 0))
			if ok := checkExec(t, g, list, args, allDefs); ok != (many <= impl.MaxArity && v < many) {
				t.Errorf("ExecCode with the argument %d and %d arguments is %v", v, many, ok)
			}
		}
		if ok := checkExec(t, g, codeOf(t, "num1"), args, allDefs); ok != (many <= impl.MaxArity) {
			t.Errorf("ExecCode with %d arguments is %v", many, ok)
		}
	}
	// Functions of the graph and of the code have to be there.
	for _, defs := range []int{-1 << 63, -1, 0, 1, 2, 3, 4, 5, 6, 7, 8, 1 << 62} {
		fits := 2 <= defs && defs <= impl.MaxDefs
		for f := range allDefs + 1 {
			list := []impl.Code{instruction(impl.ExpGlobal, f)}
			if ok := checkExec(t, g, list, nil, defs); ok != (fits && f < defs) {
				t.Errorf("ExecCode of the function %d with %d functions is %v", f, defs, ok)
			}
			list = append(codeOf(t, "arg0"), instruction(impl.ExpGlobal, f), instruction(impl.ExpApp, 0))
			if ok := checkExec(t, g[1:], list, []int{0}, defs); ok != (f < defs && defs <= impl.MaxDefs) {
				t.Errorf("ExecCode with the function %d and %d functions is %v", f, defs, ok)
			}
		}
		if ok := checkExec(t, g, codeOf(t, "num1"), nil, defs); ok != fits {
			t.Errorf("ExecCode with %d functions is %v", defs, ok)
		}
	}
	for _, e := range wrongNodes() {
		checkNoExec(t, g, codeBy(node(impl.ExpFst, 0, e)), []int{0, 1}, 2)
	}
}

func TestExecCodeOnWrongGraphs(t *testing.T) {
	for _, wrong := range wrongCells() {
		g := graphOf(t, "pair #1 #1;num 1;fst #0;ind #2;")
		for at := range len(g) + 1 {
			h := slices.Insert(slices.Clone(g), at, wrong)
			checkNoExec(t, h, codeOf(t, "num1"), nil, allDefs)
			checkNoExec(t, h, codeOf(t, "arg0"), []int{1}, allDefs)
		}
	}
	for _, many := range []int{impl.MaxCells + 1, 1000000} {
		checkNoExec(t, numberCells(many), codeOf(t, "arg0"), []int{0}, allDefs)
		checkNoExec(t, numberCells(many), codeOf(t, "num1"), nil, allDefs)
	}
}

func TestExecCodeToManyCells(t *testing.T) {
	// An argument takes no cell.
	for text, takes := range map[string]int{
		"arg0": 0, "num5": 1, "arg0 fst": 1, "arg0 arg0 add": 1, "arg0 num1 add": 2, "fun0 arg0 arg1 pair app": 3, "arg0 num1 num2 add arg1 if": 4,
	} {
		for many := impl.MaxCells - 6; many <= impl.MaxCells; many++ {
			ok := checkExec(t, numberCells(many), codeOf(t, text), []int{many - 1, 0}, allDefs)
			if ok != (many+takes <= impl.MaxCells) {
				t.Errorf("ExecCode of %s to %d cells is %v", text, many, ok)
			}
		}
	}
	for size := 57; size <= 62; size++ {
		for many := impl.MaxCells - 63; many < impl.MaxCells-55; many++ {
			ok := checkExec(t, numberCells(many), codeBy(sized(size)), nil, 0)
			if ok != (size <= impl.MaxNodes && many+size <= impl.MaxCells) {
				t.Errorf("ExecCode of %d instructions to %d cells is %v", size, many, ok)
			}
		}
	}
}

// TestCodeBuildsTheGraph checks that the code of an expression builds its graph,
// which is read back as the expression with those of the arguments.
func TestCodeBuildsTheGraph(t *testing.T) {
	r := rand.New(rand.NewSource(83))
	closed, read := 0, 0
	for range 6000 {
		g := randomGraph(r, 1+r.Intn(20), allDefs, 1+r.Intn(9))
		args := make([]int, r.Intn(allVars+1))
		for i := range args {
			args[i] = r.Intn(len(g))
		}
		e := randomExpr(r, len(args), allDefs, 1+r.Intn(6))
		list, ok := impl.CompileExpr(e)
		if !ok {
			checkNoExec(t, g, codeBy(e), args, allDefs)
			continue
		}
		checkExec(t, g, list, args, allDefs)
		checkExec(t, g, list, args, r.Intn(allDefs+1))
		checkExec(t, g, changedCode(r, list), args, allDefs)
		if want, wantRoot, ok := impl.BuildGraph(e, allDefs); ok {
			h, root, _ := impl.ExecCode(nil, list, nil, allDefs)
			if root != wantRoot || !equalGraphs(h, want) {
				t.Fatalf("the code of %s builds %v, %d", impl.FormatExpr(e), h, root)
			}
			closed++
		}
		if checkReadCode(t, g, e, list, args) {
			read++
		}
	}
	if closed < 1000 || read < 1000 {
		t.Errorf("%d expressions are closed, and %d are read back", closed, read)
	}
}

// checkReadCode reads back what code builds, if the arguments are read, too.
func checkReadCode(t *testing.T, g []impl.Cell, e impl.Expr, list []impl.Code, args []int) bool {
	t.Helper()
	var exprs []impl.Expr
	for _, at := range args {
		a, ok := impl.ReadGraph(g, at, allDefs)
		if !ok {
			return false
		}
		exprs = append(exprs, a)
	}
	want, fits := impl.SubstExpr(e, exprs)
	h, root, ok := impl.ExecCode(g, list, args, allDefs)
	got, okRead := impl.ReadGraph(h, root, allDefs)
	if !ok || okRead != fits || !equal(got, want) {
		t.Fatalf("the code of %s with %v in %v is read back as %v", impl.FormatExpr(e), args, g, got)
	}
	return fits
}

// TestCodeMakesCalls checks that a step of a call adds what the code of the
// function adds with the arguments.
func TestCodeMakesCalls(t *testing.T) {
	r := rand.New(rand.NewSource(84))
	for range 2000 {
		p := randomProgram(r)
		if len(p) == 0 {
			continue
		}
		f := r.Intn(len(p))
		g := append(randomGraph(r, 8, 0, 3), cell(impl.ExpGlobal, f))
		var args []int
		for range p[f].Arity {
			args = append(args, r.Intn(8))
			g = append(g, cell(impl.ExpApp, 0, len(g)-1, args[len(args)-1]))
		}
		list, _ := impl.CompileExpr(p[f].Body)
		want, to, ok := impl.ExecCode(g, list, args, len(p))
		h, code := impl.StepGraph(p, g, len(g)-1)
		if !ok || code != impl.EvalDone {
			t.Fatalf("the call of %d in %v has the code %d", f, p, code)
		}
		want[len(g)-1] = cell(impl.ExpInd, 0, to)
		checkGraph(t, "the step of a call", h, want)
	}
}

func TestExecCodeSharesNoMemory(t *testing.T) {
	adderOf := func(list []impl.Code) adder {
		return func(g []impl.Cell, args []int) ([]impl.Cell, int, bool) { return impl.ExecCode(g, list, args, 0) }
	}
	room := append(codeOf(t, "arg0 num5 pair num5 add"), instruction(33, 1))
	before := slices.Clone(room)
	checkAdderSharesNoMemory(t, adderOf(room[:5]))
	if !slices.Equal(room, before) {
		t.Error("ExecCode changes its code, or memory behind it")
	}
	checkNoneAddedSharesNoMemory(t, adderOf(codeOf(t, "arg0")))
}
