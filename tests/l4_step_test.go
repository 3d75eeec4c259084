package tests

import (
	"math/rand"
	"strings"
	"testing"

	"loop.example/graphreducer/impl"
)

// graphStep is a graph, the redex of its root, and the cells that a step changes and adds.
type graphStep struct {
	program, graph string
	root, redex    int
	becomes, added string
}

var graphSteps = []graphStep{
	// As many arguments as the function has, which are the operands as they are.
	{"A1=<a,a>;", "fun 0;num 7;app #0 #1;", 2, 2, "ind #3;", "pair #1 #1;"},
	{"A1=(a+1);", "num 7;fun 0;ind #1;ind #0;app #2 #3;ind #4;", 5, 4, "ind #7;", "num 1;add #3 #6;"},
	{"A1=a;", "fun 0;num 7;ind #1;app #0 #2;", 3, 3, "ind #2;", ""},
	{"A2=(b a);", "num 1;num 2;fun 0;app #2 #0;app #3 #1;", 4, 4, "ind #5;", "app #1 #0;"},
	{"A2=b;", "num 1;num 2;fun 0;app #2 #0;app #3 #1;", 4, 4, "ind #1;", ""},
	{"A3=<<c,b>,a>;", "fun 0;num 1;num 2;num 3;app #0 #1;app #4 #2;ind #5;app #6 #3;", 7, 7, "ind #9;", "pair #3 #2;pair #8 #1;"},
	{"A4=<<a,b>,<c,d>>;", "fun 0;num 1;num 2;num 3;num 4;app #0 #1;app #5 #2;app #6 #3;app #7 #4;", 8, 8, "ind #11;", "pair #1 #2;pair #3 #4;pair #9 #10;"},
	{"A1=5;B0=1;C1=(B A);", "fun 2;fun 1;app #0 #1;", 2, 2, "ind #5;", "fun 1;fun 0;app #3 #4;"},
	// Arguments are not evaluated, even if they are stuck or in a circle.
	{"A1=<a,a>;", "fun 0;fst #1;app #0 #1;", 2, 2, "ind #3;", "pair #1 #1;"},
	{"A1=<a,a>;", "fun 0;app #0 #1;", 1, 1, "ind #2;", "pair #1 #1;"},
	{"A1=a;", "fun 0;app #0 #1;", 1, 1, "ind #1;", ""},
	{"A1=7;", "fun 0;ind #1;app #0 #1;", 2, 2, "ind #3;", "num 7;"},
	// A function without arguments, which is changed itself.
	{"A0=(1+2);", "fun 0;", 0, 0, "ind #3;", "num 1;num 2;add #1 #2;"},
	{"A0=A;", "fun 0;ind #0;", 1, 0, "ind #2;", "fun 0;"},
	{"A0=B;B1=a;", "fun 0;num 7;app #0 #1;", 2, 0, "ind #3;", "fun 1;"},
	{"A0=B;B1=a;", "fun 0;ind #0;num 7;app #1 #2;app #3 #2;", 4, 0, "ind #5;", "fun 1;"},
	{"A0=4;", "fun 0;add #0 #0;", 1, 0, "ind #2;", "num 4;"},
	{"A0=<1,2>;", "fun 0;fst #0;snd #0;pair #1 #2;", 2, 0, "ind #6;", "num 1;num 2;pair #4 #5;"},
	// More arguments than the arity: the others stay.
	{"A1=<a,a>;", "fun 0;num 1;app #0 #1;num 2;app #2 #3;", 4, 2, "ind #5;", "pair #1 #1;"},
	{"A1=B;B1=a;", "fun 0;num 1;app #0 #1;num 2;ind #2;app #4 #3;app #5 #1;ind #6;", 7, 2, "ind #8;", "fun 1;"},
	{"A2=(b a);", "fun 0;num 1;num 2;num 3;app #0 #1;app #4 #2;app #5 #3;", 6, 5, "ind #7;", "app #2 #1;"},
	{"A2=(b a);", "fun 0;num 1;num 2;num 3;app #0 #1;app #4 #2;app #5 #3;app #6 #3;", 7, 5, "ind #8;", "app #2 #1;"},
	{"A3=a;", "fun 0;num 1;num 2;num 3;app #0 #1;app #4 #2;app #5 #3;app #6 #3;app #7 #3;", 8, 6, "ind #1;", ""},
	// The parts of a pair, as they are.
	{"", "num 1;num 2;pair #0 #1;fst #2;", 3, 3, "ind #0;", ""},
	{"", "num 1;num 2;pair #0 #1;snd #2;", 3, 3, "ind #1;", ""},
	{"", "num 1;ind #0;fst #0;pair #1 #2;ind #3;fst #4;ind #5;", 6, 5, "ind #1;", ""},
	{"", "num 1;ind #0;fst #0;pair #1 #2;ind #3;snd #4;", 5, 5, "ind #2;", ""},
	{"", "pair #1 #1;fst #0;", 1, 1, "ind #1;", ""},
	// What is chosen, as it is.
	{"", "num 0;num 1;num 2;if #0 #1 #2;", 3, 3, "ind #1;", ""},
	{"", "num 1;num 1;num 2;if #0 #1 #2;", 3, 3, "ind #2;", ""},
	{"", "num 999;ind #0;fst #0;if #1 #2 #1;", 3, 3, "ind #1;", ""},
	{"", "num 0;ind #0;fst #0;ind #4;if #1 #2 #1;", 3, 4, "ind #2;", ""},
	{"", "num 0;if #0 #1 #1;", 1, 1, "ind #1;", ""},
	// Sums and differences.
	{"", "num 1;num 2;add #0 #1;", 2, 2, "num 3;", ""},
	{"", "num 999;add #0 #0;", 1, 1, "num 998;", ""},
	{"", "num 999;num 1;ind #0;ind #1;add #2 #3;", 4, 4, "num 0;", ""},
	{"", "num 1;num 2;sub #0 #1;", 2, 2, "num 999;", ""},
	{"", "num 5;num 3;ind #1;sub #0 #2;ind #3;", 4, 3, "num 2;", ""},
	{"", "num 0;num 999;sub #0 #1;", 2, 2, "num 1;", ""},
	{"", "num 7;sub #0 #0;", 1, 1, "num 0;", ""},
	// The redex of an operand: the first one comes first.
	{"", "num 1;add #0 #0;add #0 #0;add #1 #2;", 3, 1, "num 2;", ""},
	{"", "num 1;num 2;add #0 #0;add #1 #2;", 3, 2, "num 2;", ""},
	{"", "num 1;ind #0;add #0 #0;ind #2;sub #1 #3;ind #4;sub #5 #2;", 6, 2, "num 2;", ""},
	{"", "num 1;sub #0 #0;if #1 #3 #3;fst #0;", 2, 1, "num 0;", ""},
	{"", "num 1;pair #0 #0;fst #1;snd #2;", 3, 2, "ind #0;", ""},
	{"", "num 1;pair #0 #0;pair #1 #0;ind #2;fst #3;ind #4;snd #5;add #6 #6;", 7, 4, "ind #1;", ""},
	{"A1=<a,a>;", "fun 0;num 1;app #0 #1;fst #2;", 3, 2, "ind #4;", "pair #1 #1;"},
	// The redex of the function of an application.
	{"", "num 1;fst #2;pair #0 #0;app #1 #0;", 3, 1, "ind #0;", ""},
	{"A1=a;", "num 0;fun 0;if #0 #1 #0;app #2 #0;app #3 #0;", 4, 2, "ind #1;", ""},
	{"", "num 1;add #0 #0;ind #1;app #2 #0;fst #3;", 4, 1, "num 2;", ""},
	// A second operand that is stuck shows only after the first one has a value.
	{"", "num 1;add #0 #0;fst #0;add #1 #2;", 3, 1, "num 2;", ""},
}

// after returns the graph of a case after its step.
func (c graphStep) after(t *testing.T) []impl.Cell {
	t.Helper()
	lines := strings.SplitAfter(c.graph, ";")
	lines[c.redex] = c.becomes
	return graphOf(t, strings.Join(lines, "")+c.added)
}

func TestStepGraph(t *testing.T) {
	for _, c := range graphSteps {
		p, g := mustProgram(t, c.program), graphOf(t, c.graph)
		if redex, code := impl.RedexOf(p, g, c.root); redex != c.redex || code != impl.EvalDone {
			t.Errorf("RedexOf(%s, %s, %d) = %d, %d", c.program, c.graph, c.root, redex, code)
		}
		if impl.IsValue(p, g, c.root) {
			t.Errorf("%s is a value", c.graph)
		}
		h, code := impl.StepGraph(p, g, c.root)
		if code != impl.EvalDone {
			t.Errorf("StepGraph(%s, %s, %d) has the code %d", c.program, c.graph, c.root, code)
		}
		checkGraph(t, c.program+c.graph, h, c.after(t))
		h, _, steps := impl.EvalGraph(p, g, c.root, 1)
		if steps != 1 {
			t.Errorf("EvalGraph(%s, %s, %d) makes %d steps", c.program, c.graph, c.root, steps)
		}
		checkGraph(t, c.program+c.graph, h, c.after(t))
	}
}

func TestStuckGraphs(t *testing.T) {
	p := mustProgram(t, someDefs)
	for _, text := range []string{
		// Nothing to which the cell stands, and spines without end.
		"ind #0;", "ind #1;ind #0;", "app #0 #0;", "app #1 #1;ind #0;", "app #1 #1;app #0 #0;",
		// No function in front of the arguments.
		"app #1 #1;num 1;", "app #1 #2;pair #2 #2;num 1;", "app #1 #1;app #2 #2;num 3;", "app #1 #2;ind #2;num 1;",
		// No pair, no number.
		"fst #1;num 1;", "snd #1;num 1;", "fst #1;fun 1;", "snd #1;app #2 #2;fun 2;", "fst #1;ind #2;num 1;",
		"if #1 #1 #1;pair #0 #0;", "if #1 #2 #2;fun 1;num 0;", "if #1 #1 #1;app #2 #0;fun 2;",
		"add #1 #2;pair #0 #0;num 1;", "add #2 #1;pair #0 #0;num 1;", "sub #1 #2;fun 3;num 1;", "sub #2 #1;fun 3;num 1;", "add #2 #1;app #3 #2;num 1;fun 2;", "add #1 #1;ind #2;fun 1;",
		// A first operand that is no number is stuck at once, whatever the second one is.
		"add #1 #2;pair #0 #0;add #3 #3;num 1;", "sub #1 #2;fun 1;fun 0;",
		// An operand that is its own operand.
		"fst #0;", "snd #0;", "add #0 #0;", "sub #0 #0;", "if #0 #1 #1;num 1;", "add #1 #0;num 1;", "sub #1 #0;num 1;", "fst #1;ind #0;", "fst #1;snd #0;", "ind #1;add #2 #1;num 1;",
		"fst #1;app #0 #2;num 1;", "app #1 #1;fst #0;", "add #1 #2;num 1;if #3 #1 #1;snd #0;",
		// An operand that is stuck.
		"fst #1;ind #1;", "add #1 #2;num 1;fst #1;", "if #1 #2 #2;app #2 #2;num 1;", "snd #1;app #1 #1;", "app #1 #1;fst #2;num 1;", "add #1 #2;num 1;ind #2;", "sub #1 #2;ind #1;fun 0;",
	} {
		g := graphOf(t, text)
		if redex, code := impl.RedexOf(p, g, 0); redex != 0 || code != impl.EvalStuck {
			t.Errorf("RedexOf(%s) = %d, %d", text, redex, code)
		}
		if impl.IsValue(p, g, 0) {
			t.Errorf("%s is a value", text)
		}
		if h, code := impl.StepGraph(p, g, 0); code != impl.EvalStuck || !equalGraphs(h, g) {
			t.Errorf("StepGraph(%s) = %v, %d", text, h, code)
		}
		for _, fuel := range []int{1, 2, impl.MaxFuel} {
			if h, code, steps := impl.EvalGraph(p, g, 0, fuel); code != impl.EvalStuck || steps != 0 || !equalGraphs(h, g) {
				t.Errorf("EvalGraph(%s, %d) = %v, %d, %d", text, fuel, h, code, steps)
			}
		}
		// Without fuel for a step, it does not show that there is none.
		if h, code, steps := impl.EvalGraph(p, g, 0, 0); code != impl.EvalFuel || steps != 0 || !equalGraphs(h, g) {
			t.Errorf("EvalGraph(%s, 0) = %v, %d, %d", text, h, code, steps)
		}
	}
}

func TestDeepRedexes(t *testing.T) {
	// As many operands as there can be between the root and its redex.
	for _, op := range []int{impl.ExpFst, impl.ExpSnd, impl.ExpAdd, impl.ExpSub, impl.ExpIf} {
		g := graphOf(t, "num 1;fun 0;")
		for at := 2; at < impl.MaxCells; at++ {
			kids := []int{at - 1, at - 1, at - 1}[:kidsOf[op]]
			if (op == impl.ExpAdd || op == impl.ExpSub) && at%2 == 0 {
				kids[0] = 0
			}
			g = append(g, cell(op, 0, kids...))
		}
		p := mustProgram(t, "A0=A;")
		for _, root := range []int{1, 2, 3, 100, impl.MaxCells - 2, impl.MaxCells - 1} {
			if redex, code := impl.RedexOf(p, g, root); redex != 1 || code != impl.EvalDone {
				t.Errorf("RedexOf(%d) through the kind %d = %d, %d", root, op, redex, code)
			}
		}
		// The same in a circle.
		g[1] = cell(impl.ExpInd, 0, impl.MaxCells-1)
		for _, root := range []int{1, 2, 3, 100, impl.MaxCells - 2, impl.MaxCells - 1} {
			if redex, code := impl.RedexOf(p, g, root); redex != 0 || code != impl.EvalStuck {
				t.Errorf("RedexOf(%d) in a circle of the kind %d = %d, %d", root, op, redex, code)
			}
		}
	}
}

func TestStepsToManyCells(t *testing.T) {
	// A variable takes no cell, and a step without a call takes none.
	cases := []struct {
		program, graph string
		takes          int
	}{
		{"A0=5;", "fun 0;", 1}, {"A0=<1,A>;", "fun 0;", 3}, {"A1=a;", "app #1 #1;fun 0;", 0}, {"A1=(a+a);", "app #1 #1;fun 0;", 1}, {"A2=((a b) (A 1));", "app #1 #2;app #2 #2;fun 0;", 5},
		{"A1=(B a);B1=1;", "app #1 #2;fun 0;num 1;", 2}, {"A2=b;", "app #1 #2;app #2 #2;fun 0;", 0}, {"A1=2;", "app #1 #2;app #2 #2;fun 0;", 1},
		{"", "fst #1;pair #0 #0;", 0}, {"", "snd #1;pair #0 #0;", 0}, {"", "if #1 #1 #1;num 1;", 0}, {"", "add #1 #1;num 1;", 0}, {"", "sub #1 #1;num 1;", 0},
	}
	for _, c := range cases {
		p := mustProgram(t, c.program)
		for many := impl.MaxCells - 6; many <= impl.MaxCells; many++ {
			g := padded(graphOf(t, c.graph), many)
			want, wantCode, _ := stepBy(p, g, 0)
			if (wantCode == impl.EvalLarge) != (many+c.takes > impl.MaxCells) {
				t.Errorf("the step of %s takes more than %d cells", c.graph, c.takes)
			}
			h, code := impl.StepGraph(p, g, 0)
			if code != wantCode {
				t.Errorf("the step of %s and %d cells has the code %d", c.graph, many, code)
			}
			checkGraph(t, c.graph, h, want)
			if wantCode != impl.EvalLarge {
				continue
			}
			// The redex is there, even if there is no room for its step.
			if redex, code := impl.RedexOf(p, g, 0); g[redex].Op != impl.ExpApp && g[redex].Op != impl.ExpGlobal || code != impl.EvalDone {
				t.Errorf("RedexOf(%s) = %d, %d", c.graph, redex, code)
			}
			h, code, steps := impl.EvalGraph(p, g, 0, 1)
			if code != impl.EvalLarge || steps != 0 {
				t.Errorf("EvalGraph(%s) and %d cells has the code %d and %d steps", c.graph, many, code, steps)
			}
			checkGraph(t, c.graph, h, g)
		}
	}
}

func TestRandomSteps(t *testing.T) {
	r := rand.New(rand.NewSource(42))
	kinds, codes := map[int]int{}, map[int]int{}
	for range 4000 {
		p := randomProgram(r)
		g := mixedGraph(r, p)
		before := cloneGraph(g)
		for root := range min(len(g), 40) {
			f, cells, ok := spineBy(g, root, map[int]bool{})
			if !ok {
				f = -1
			}
			checkSpine(t, g, root, f, cells...)
			want, wantCode, wantRedex := stepBy(p, g, root)
			isValue := valueBy(p, g, root)
			redexCode := wantCode
			if wantCode == impl.EvalLarge {
				redexCode = impl.EvalDone
			}
			if redex, code := impl.RedexOf(p, g, root); redex != wantRedex || code != redexCode || impl.IsValue(p, g, root) != isValue {
				t.Fatalf("RedexOf(%s, %v, %d) = %d, %d, not %d, %d", impl.FormatProgram(p), g, root, redex, code, wantRedex, redexCode)
			}
			h, code := impl.StepGraph(p, g, root)
			if code != wantCode || !equalGraphs(h, want) || !impl.GraphValid(h, len(p)) {
				t.Fatalf("StepGraph(%s, %v, %d) = %v, %d, not %v, %d", impl.FormatProgram(p), g, root, h, code, want, wantCode)
			}
			codes[code]++
			if code == impl.EvalDone && !isValue {
				kinds[g[wantRedex].Op]++
			}
		}
		if !equalGraphs(g, before) {
			t.Fatal("a function changes its argument")
		}
	}
	for _, op := range []int{impl.ExpGlobal, impl.ExpApp, impl.ExpFst, impl.ExpSnd, impl.ExpAdd, impl.ExpSub, impl.ExpIf} {
		if kinds[op] < 300 {
			t.Errorf("%d redexes are of the kind %d", kinds[op], op)
		}
	}
	if codes[impl.EvalStuck] < 1000 || codes[impl.EvalLarge] < 100 {
		t.Errorf("the numbers of steps with each code are %v", codes)
	}
}

// TestStepsKeepTheNumber checks that a step of a graph saves at least one step
// of the expression for which it stands.
func TestStepsKeepTheNumber(t *testing.T) {
	r := rand.New(rand.NewSource(43))
	done, shared := 0, 0
	for range 20000 {
		p := randomProgram(r)
		g := mixedGraph(r, p)
		root := len(g) - 1
		e, ok := impl.ReadGraph(g, root, len(p))
		if !ok || impl.IsHead(p, e) {
			continue
		}
		n, code, steps := impl.EvalName(p, e, impl.MaxFuel)
		h, stepCode := impl.StepGraph(p, g, root)
		next, ok := impl.ReadGraph(h, root, len(p))
		if code != impl.EvalDone || n.Op != impl.ExpNum || stepCode != impl.EvalDone || !ok {
			continue
		}
		m, code, left := impl.EvalName(p, next, impl.MaxFuel)
		if code != impl.EvalDone || !equal(m, n) || left >= steps {
			t.Fatalf("%s with %s has %v, and %v after a step", impl.FormatExpr(e), impl.FormatProgram(p), n, m)
		}
		done++
		if left < steps-1 {
			shared++
		}
	}
	if done < 500 || shared < 20 {
		t.Errorf("%d steps are made, %d of them for several steps by name", done, shared)
	}
}

func TestStepGraphSharesNoMemory(t *testing.T) {
	// A step with a call, one without, a value, a graph that is stuck, and one that is too large.
	program := "A1=<a,(a+1)>;"
	for _, c := range []struct {
		text string
		many int
	}{
		{"app #1 #2;fun 0;num 7;ind #2;", 4}, {"add #2 #3;fun 0;num 7;ind #2;", 4}, {"fst #1;pair #2 #2;num 7;ind #2;", 4}, {"pair #1 #2;fun 0;num 7;ind #2;", 4},
		{"app #2 #2;fun 0;num 7;ind #2;", 4}, {"app #1 #2;fun 0;num 7;ind #2;", impl.MaxCells - 1},
	} {
		p := mustProgram(t, program)
		room := append(padded(graphOf(t, c.text), c.many), cell(33, 1))
		g := room[:c.many]
		kids := append(append([]int{}, g[0].Kids...), 55)
		g[0].Kids = kids[:len(kids)-1]
		before := cloneGraph(g)
		want, code, _ := stepBy(p, before, 0)
		results := [][]impl.Cell{}
		for range 2 {
			h, got := impl.StepGraph(p, g, 0)
			k, _, _ := impl.EvalGraph(p, g, 0, 1)
			if got != code {
				t.Errorf("StepGraph(%s) has the code %d", c.text, got)
			}
			results = append(results, h, k)
		}
		for _, h := range results {
			checkGraph(t, c.text, h, want)
			for i := range h {
				_ = append(h[i].Kids, 44)
			}
			checkGraph(t, c.text, h, want)
			spoilGraph(h)
			checkGraph(t, c.text, g, before)
		}
		if room[c.many].Op != 33 || kids[len(kids)-1] != 55 || impl.FormatProgram(p) != strings.ReplaceAll(program, ";", "\n") {
			t.Errorf("a result for %s shares memory with an argument", c.text)
		}
		h, _ := impl.StepGraph(p, g, 0)
		k, _, _ := impl.EvalGraph(p, g, 0, 1)
		spoilGraph(room)
		spoil(p[0].Body)
		checkGraph(t, c.text, h, want)
		checkGraph(t, c.text, k, want)
	}
}
