package tests

import (
	"math/rand"
	"testing"

	"loop.example/graphreducer/impl"
)

// otherSteps makes other steps of a graph in one of the ways that there are,
// and returns the cell that its root has become, and how many steps were made.
func otherSteps(r *rand.Rand, p []impl.Def, g []impl.Cell, root int) ([]impl.Cell, int, int) {
	steps := 0
	switch r.Intn(5) {
	case 0:
		g, steps = impl.SparkGraph(p, g)
	case 1:
		h, code := impl.StepAt(p, g, r.Intn(len(g)))
		if code == impl.EvalDone {
			steps = 1
		}
		g = h
	case 2:
		h, tops, _ := impl.MergeCells(g, []int{root})
		g, root = h, tops[0]
	default:
		g, steps = impl.PlayAt(p, g, randomScript(r, 8))
	}
	return g, root, steps
}

// orders counts evaluations with each code, and steps between those that are needed.
type orders struct {
	codes [impl.EvalInvalid]int
	made  int
	fewer int
}

// compare checks that an evaluation has the same end after other steps, in no
// more steps, unless there is no room.
func (o *orders) compare(t *testing.T, r *rand.Rand, p []impl.Def, g []impl.Cell, root int, fuel int) {
	t.Helper()
	n, code, steps := numberAt(p, g, root, fuel)
	o.codes[code]++
	if code != impl.EvalDone && code != impl.EvalStuck {
		return
	}
	h, top, spent := g, root, 0
	for range 1 + r.Intn(4) {
		for range r.Intn(3) {
			if k, end := impl.StepGraph(p, h, top); end == impl.EvalDone && !impl.IsValue(p, h, top) {
				h, spent = k, spent+1
			}
		}
		k, place, made := otherSteps(r, p, h, top)
		h, top = k, place
		o.made += made
	}
	m, end, left := numberAt(p, h, top, fuel)
	if end == impl.EvalLarge {
		// With nothing but what is needed, there is room again.
		collected, tops, _ := impl.CollectGraph(h, []int{top})
		m, end, left = numberAt(p, collected, tops[0], fuel)
		o.codes[impl.EvalLarge]++
	}
	if end == impl.EvalLarge {
		return
	}
	if m != n || end != code || left > steps-spent {
		t.Fatalf("%d of\n%swith %s has %d, %d after %d steps, and after other steps and %d of these %d, %d after %d", root, impl.FormatGraph(g), impl.FormatProgram(p), n, code, steps, spent, m, end, left)
	}
	if left < steps-spent {
		o.fewer++
	}
}

// TestOtherStepsChangeNoNumber is promise 10, for graphs of any shape.
func TestOtherStepsChangeNoNumber(t *testing.T) {
	r := rand.New(rand.NewSource(109))
	var o orders
	for i := range 6000 {
		p := randomProgram(r)
		g := mixedGraph(r, p)
		if i%2 == 0 {
			g = busyGraph(r, p)
		}
		o.compare(t, r, p, g, someWork(r, p, g), 100)
	}
	if o.codes[impl.EvalDone] < 1000 || o.codes[impl.EvalStuck] < 1000 || o.made < 10000 || o.fewer < 500 {
		t.Errorf("the numbers of evaluations with each code are %v, with %d other steps, and %d have fewer steps", o.codes, o.made, o.fewer)
	}
}

// TestOtherStepsOfExprs is the same for the graphs of expressions, which have
// the numbers of evaluation by name.
func TestOtherStepsOfExprs(t *testing.T) {
	r := rand.New(rand.NewSource(110))
	var o orders
	named := 0
	for range 4000 {
		p := callingProgram(r)
		e := callingExpr(r, p)
		g, root, _ := impl.BuildGraph(e, len(p))
		o.compare(t, r, p, g, root, impl.MaxFuel)
		n, code := impl.NumberName(p, e, impl.MaxFuel)
		h, top, _ := otherSteps(r, p, g, root)
		h, top, _ = otherSteps(r, p, h, top)
		m, end, _ := numberAt(p, h, top, impl.MaxFuel)
		if code != impl.EvalDone || end == impl.EvalLarge {
			continue
		}
		if end != impl.EvalDone || m != n {
			t.Fatalf("%s with %s has %d, and after other steps %d, %d", impl.FormatExpr(e), impl.FormatProgram(p), n, m, end)
		}
		named++
	}
	if named < 1500 || o.codes[impl.EvalDone] < 1500 || o.codes[impl.EvalStuck] < 100 || o.made < 5000 || o.fewer < 500 {
		t.Errorf("%d numbers are found, the numbers of evaluations with each code are %v, with %d other steps, and %d have fewer steps", named, o.codes, o.made, o.fewer)
	}
}

// TestStepsThatGoOnForever checks numbers beside steps that are not needed and
// never come to an end.
func TestStepsThatGoOnForever(t *testing.T) {
	for _, c := range []struct {
		program, text string
		number        int
	}{
		{"A2=a;B0=(B 1);", "((A 7) B)", 7}, {"A2=a;B0=B;", "((A 7) (B 1))", 7}, {"A2=b;B1=(B (a+1));", "((A (B 1)) (3+4))", 7}, {"A1=<a,(A (a+1))>;", "(~(A 5)+~^(A 1))", 7},
		{"A1=[a?7:(A (a-1))];B1=(B (B a));", "[(A 4)?(B 1):0]", 0}, {"A0=<7,A>;", "~^^^A", 7}, {"A1=(A <a,a>);", "[0?7:(A (A 1))]", 7},
	} {
		p, e := mustProgram(t, c.program), mustExpr(t, c.text)
		g, root, _ := impl.BuildGraph(e, len(p))
		n, code, steps := numberAt(p, g, root, impl.MaxFuel)
		if n != c.number || code != impl.EvalDone {
			t.Fatalf("%s has %d, %d", c.text, n, code)
		}
		for many := range 16 {
			h, all := g, 0
			for i := range many {
				k, made := impl.PlayAt(p, h, []int{i, 1, i * i, 0})
				h, all = k, all+made
			}
			if m, end, left := numberAt(p, h, root, impl.MaxFuel); m != n || end != impl.EvalDone || left > steps {
				t.Errorf("%s has %d, %d after %d other steps", c.text, m, end, all)
			}
			if many > 10 && all < 20 {
				t.Errorf("%d other steps of %s are made", all, c.text)
			}
			if len(impl.RedexesOf(p, h)) == 0 {
				t.Errorf("the other steps of %s come to an end", c.text)
			}
		}
	}
}

// withoutRoom makes steps of all cells but one until there is no room for any of them.
func withoutRoom(p []impl.Def, g []impl.Cell, but int) []impl.Cell {
	for {
		made := 0
		for _, at := range impl.RedexesOf(p, g) {
			if at == but {
				continue
			}
			if h, code := impl.StepAt(p, g, at); code == impl.EvalDone {
				g, made = h, made+1
			}
		}
		if made == 0 {
			return g
		}
	}
}

// TestOtherStepsTakeRoom checks that steps that are not needed can leave no room
// for those that are, until the graph is collected or merged.
func TestOtherStepsTakeRoom(t *testing.T) {
	p := mustProgram(t, "A2=(1+(a+1));B0=(B 1);C0=<1,C>;")
	g, root, _ := impl.BuildGraph(mustExpr(t, "((A 6) <C,C>)"), len(p))
	beside, _, _ := impl.AddExpr(g, global(1), nil, len(p))
	for _, h := range [][]impl.Cell{withoutRoom(p, g, root), withoutRoom(p, beside, root)} {
		if n, code, steps := numberAt(p, h, root, impl.MaxFuel); n != 0 || code != impl.EvalLarge || steps != 0 {
			t.Errorf("without room, there is %d, %d after %d steps", n, code, steps)
		}
		for _, copies := range []func([]impl.Cell, []int) ([]impl.Cell, []int, bool){impl.MergeCells, impl.CollectGraph} {
			k, tops, ok := copies(h, []int{root})
			if n, code, steps := numberAt(p, k, tops[0], impl.MaxFuel); !ok || n != 8 || code != impl.EvalDone || steps != 3 {
				t.Errorf("with room again, there is %d, %d after %d steps", n, code, steps)
			}
		}
	}
}

// TestMergesSaveSteps checks that what is equal is evaluated once.
func TestMergesSaveSteps(t *testing.T) {
	for _, c := range []struct {
		program, text            string
		number, steps, fewerLeft int
	}{
		{"", "((1+2)+(1+2))", 6, 3, 2},
		{"A1=(a+1);", "((A (2+3))+(A (2+3)))", 12, 7, 4},
		{"A1=(a+1);", "((A 2)+(A 3))", 7, 5, 5},
		{"A0=7;", "(A+(A+A))", 21, 5, 3},
		{"", "((1+2)+(2+1))", 6, 3, 3},
	} {
		p := mustProgram(t, c.program)
		g, root, _ := impl.BuildGraph(mustExpr(t, c.text), len(p))
		h, tops, _ := impl.MergeCells(g, []int{root})
		n, _, steps := numberAt(p, g, root, impl.MaxFuel)
		m, code, left := numberAt(p, h, tops[0], impl.MaxFuel)
		if n != c.number || m != n || code != impl.EvalDone || steps != c.steps || left != c.fewerLeft {
			t.Errorf("%s has %d after %d steps, and merged %d, %d after %d", c.text, n, steps, m, code, left)
		}
	}
}
