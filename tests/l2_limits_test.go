package tests

import (
	"testing"

	"loop.example/graphreducer/impl"
)

// sized returns a number with ExpFst and ExpAdd around it that has many nodes.
func sized(many int) impl.Expr {
	if many%2 == 0 {
		return chain(1, fullTree(many-1))
	}
	return fullTree(many)
}

// checkStepLimit checks a step whose result is known, but can be too large.
func checkStepLimit(t *testing.T, p []impl.Def, e impl.Expr, want impl.Expr) {
	t.Helper()
	size, depth := measure(want)
	end, code := want, impl.EvalDone
	if size > impl.MaxNodes || depth > impl.MaxDepth {
		end, code = impl.Expr{}, impl.EvalLarge
	}
	if got, c := impl.StepName(p, e); c != code || !equal(got, end) {
		t.Errorf("the step to %d nodes and a depth of %d has %v and the code %d", size, depth, got, c)
	}
	trace, c := impl.TraceName(p, e, 1)
	if code == impl.EvalLarge && (c != code || len(trace) != 1 || !equal(trace[0], e)) || code == impl.EvalDone && (len(trace) != 2 || !equal(trace[1], want)) {
		t.Errorf("TraceName to %d nodes and a depth of %d = %v, %d", size, depth, trace, c)
	}
	got, c, steps := impl.EvalName(p, e, 1)
	if code == impl.EvalLarge && (c != code || steps != 0 || !isZero(got)) || code == impl.EvalDone && (c == impl.EvalLarge || steps != 1) {
		t.Errorf("EvalName to %d nodes and a depth of %d = %v, %d, %d", size, depth, got, c, steps)
	}
}

func TestStepsToManyNodes(t *testing.T) {
	p := mustProgram(t, "A1=(a+a);B2=(a b);")
	for size := 24; size <= 34; size++ {
		arg := sized(size)
		call := node(impl.ExpApp, 0, global(0), arg)
		sum := node(impl.ExpAdd, 0, arg, arg)
		checkStepLimit(t, p, call, sum)
		for rest := 1; rest < 20; rest++ {
			// The result of the step is small enough as long as nothing is around it.
			other := sized(rest)
			checkStepLimit(t, p, node(impl.ExpApp, 0, call, other), node(impl.ExpApp, 0, sum, other))
			checkStepLimit(t, p, node(impl.ExpAdd, 0, call, other), node(impl.ExpAdd, 0, sum, other))
			checkStepLimit(t, p, node(impl.ExpSub, 0, number(1), node(impl.ExpAdd, 0, call, other)), node(impl.ExpSub, 0, number(1), node(impl.ExpAdd, 0, sum, other)))
			checkStepLimit(t, p, node(impl.ExpIf, 0, call, number(1), other), node(impl.ExpIf, 0, sum, number(1), other))
			checkStepLimit(t, p, node(impl.ExpApp, 0, chain(1, call), other), node(impl.ExpApp, 0, chain(1, sum), other))
		}
	}
}

func TestStepsToGreatDepths(t *testing.T) {
	p := mustProgram(t, "A1=~~~~~~~~a;B0=^^^^^^^^^^^^^^^1;")
	deep := number(1)
	for range 15 {
		deep = node(impl.ExpSnd, 0, deep)
	}
	checkStepLimit(t, p, global(1), deep)
	for around := range 4 {
		checkStepLimit(t, p, chain(around, global(1)), chain(around, deep))
	}
	checkStepLimit(t, p, node(impl.ExpApp, 0, global(1), number(2)), node(impl.ExpApp, 0, deep, number(2)))
	for inside := 4; inside < 12; inside++ {
		arg := chain(inside, number(1))
		for around := range 4 {
			call, want := node(impl.ExpApp, 0, global(0), arg), chain(8+inside, number(1))
			checkStepLimit(t, p, chain(around, call), chain(around, want))
			for range around {
				call, want = node(impl.ExpApp, 0, call, number(2)), node(impl.ExpApp, 0, want, number(2))
			}
			checkStepLimit(t, p, call, want)
		}
	}
}

func TestTooLargeLater(t *testing.T) {
	p := mustProgram(t, "A1=(A <a,a>);B1=(1+(B a));C2=((C <a,a>) b);")
	for text, want := range map[string]int{"(A 1)": 4, "(A A)": 4, "((C 1) 2)": 4, "(B 1)": 14, "[(A 1)?2:3]": 4, "~(A <1,2>)": 3, "(1+(A 1))": 4} {
		e := mustExpr(t, text)
		got, code, steps := impl.EvalName(p, e, impl.MaxFuel)
		if code != impl.EvalLarge || steps != want || !isZero(got) {
			t.Errorf("EvalName(%s) = %v, %d, %d", text, got, code, steps)
		}
		if n, code := impl.NumberName(p, e, impl.MaxFuel); n != 0 || code != impl.EvalLarge {
			t.Errorf("NumberName(%s) = %d, %d", text, n, code)
		}
		trace, code := impl.TraceName(p, e, impl.MaxFuel)
		if code != impl.EvalLarge || len(trace) != steps+1 {
			t.Errorf("TraceName(%s) has %d expressions, and the code %d", text, len(trace), code)
		}
		for _, x := range trace {
			if !impl.ExprValid(x, 0, len(p)) {
				t.Errorf("TraceName(%s) has %v", text, x)
			}
		}
	}
}
