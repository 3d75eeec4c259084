package tests

import (
	"math/rand"
	"strings"
	"testing"

	"loop.example/graphreducer/impl"
)

// eagerCases has programs with what EagerNumber and NumberNeed return for them,
// where the order of their steps makes a difference, and where it does not.
var eagerCases = []struct {
	program, text       string
	number, code, steps int
	needCode, needSteps int
}{
	{"A2=[a?b:((A (a-1)) (b+b))];", "((A 3) (1+0))", 8, impl.EvalDone, 15, impl.EvalDone, 15},
	{"A1=(a+a);", "(A (1+1))", 4, impl.EvalDone, 3, impl.EvalDone, 3},
	{"", "(999+(2-3))", 998, impl.EvalDone, 2, impl.EvalDone, 2},
	{"A0=(1+2);", "(A+A)", 6, impl.EvalDone, 5, impl.EvalDone, 5},
	{"A1=<a,a>;", "~(A (1+1))", 2, impl.EvalDone, 3, impl.EvalDone, 3},
	{"A1=a;", "A", 0, impl.EvalStuck, 0, impl.EvalStuck, 0},
	// An argument that is stuck is found before the call, if it is needed.
	{"A1=(a+a);", "(A (1 2))", 0, impl.EvalStuck, 0, impl.EvalStuck, 1},
	{"A1=(1+a);", "(1+(A ~3))", 0, impl.EvalStuck, 0, impl.EvalStuck, 1},
	{"A1=<a,a>;", "~(A (1 2))", 0, impl.EvalStuck, 2, impl.EvalStuck, 2},
	{"A1=[0?a:1];", "(A (1 2))", 0, impl.EvalStuck, 2, impl.EvalStuck, 2},
	{"A1=[0?a:a];", "(A (1 2))", 0, impl.EvalStuck, 0, impl.EvalStuck, 2},
	{"A2=b;", "((A (1 2)) 5)", 5, impl.EvalDone, 1, impl.EvalDone, 1},
	{"A2=b;", "((A 5) (1 2))", 0, impl.EvalStuck, 0, impl.EvalStuck, 1},
	// A value of another kind is no reason to wait.
	{"A1=(a+a);", "(A <1,2>)", 0, impl.EvalStuck, 1, impl.EvalStuck, 1},
	{"A1=(a+a);", "(A A)", 0, impl.EvalStuck, 1, impl.EvalStuck, 1},
	{"A1=(a+a);B1=<a,a>;", "(A (B 1))", 0, impl.EvalStuck, 2, impl.EvalStuck, 2},
	// The first one comes first, whatever the body needs first.
	{"A2=(b+a);B0=B;", "((A B) (1 2))", 0, impl.EvalFuel, 300, impl.EvalStuck, 1},
	{"A2=(b+a);B0=B;", "((A (1 2)) B)", 0, impl.EvalStuck, 0, impl.EvalFuel, 300},
	{"A2=(b+a);B0=B;", "((A 1) (1 2))", 0, impl.EvalStuck, 0, impl.EvalStuck, 1},
	{"A2=(b+a);", "((A (1+2)) (1 2))", 0, impl.EvalStuck, 1, impl.EvalStuck, 1},
	{"A3=(c+(b+a));", "(((A 1) (2+3)) (1 2))", 0, impl.EvalStuck, 1, impl.EvalStuck, 1},
	{"A3=(b+c);B0=B;", "(((A B) 1) (1 2))", 0, impl.EvalStuck, 0, impl.EvalStuck, 1},
	{"A4=(d+a);B0=B;", "((((A (1+(2+3))) B) B) ~<4,B>)", 10, impl.EvalDone, 5, impl.EvalDone, 5},
	// In the same way for an argument, also for one in an operand of it.
	{"A1=(a+1);", "(A (A (A (1 2))))", 0, impl.EvalStuck, 0, impl.EvalStuck, 3},
	{"A1=(a+1);B1=<a,a>;", "(A ~(B (A (1 2))))", 0, impl.EvalStuck, 2, impl.EvalStuck, 4},
	{"A1=(a+1);", "(A (1+(A [(A (1 2))?3:4])))", 0, impl.EvalStuck, 0, impl.EvalStuck, 3},
	{"A1=(a+1);B1=[a?1:2];", "(A (B (A ~A)))", 0, impl.EvalStuck, 0, impl.EvalStuck, 3},
	// Too few arguments for a call, and more than enough.
	{"A2=(a+b);B1=(a 1);", "(B (A (1 2)))", 0, impl.EvalStuck, 1, impl.EvalStuck, 2},
	{"A1=[a?A:1];", "((A (0-0)) (1 2))", 0, impl.EvalStuck, 3, impl.EvalStuck, 4},
	{"A1=[a?B:1];B1=(a+a);", "((A (1 2)) 5)", 0, impl.EvalStuck, 0, impl.EvalStuck, 1},
	{"A0=B;B1=(a+a);", "(A (1 2))", 0, impl.EvalStuck, 1, impl.EvalStuck, 2},
	// An argument that is shared is evaluated once.
	{"A1=(B a);B1=(C a);C1=(a+a);", "(A (1+1))", 4, impl.EvalDone, 5, impl.EvalDone, 5},
	{"A1=((B a) a);B2=(b-a);", "(A (7+1))", 0, impl.EvalDone, 4, impl.EvalDone, 4},
	// A function that only calls itself needs what it passes on.
	{"A1=(A a);", "(A (1 2))", 0, impl.EvalStuck, 0, impl.EvalLarge, 197},
	{"A1=(A a);", "(A 1)", 0, impl.EvalLarge, 198, impl.EvalLarge, 198},
	{"A1=(A <a,a>);", "(A (1 2))", 0, impl.EvalLarge, 131, impl.EvalLarge, 131},
	{"A1=(A (a+1));", "~(A 1)", 0, impl.EvalLarge, 198, impl.EvalLarge, 99},
	{"A0=A;", "A", 0, impl.EvalFuel, 300, impl.EvalFuel, 300},
}

func TestEagerNumber(t *testing.T) {
	for _, c := range eagerCases {
		p, e := mustProgram(t, c.program), mustExpr(t, c.text)
		if n, code, steps := impl.EagerNumber(p, e, impl.MaxFuel); n != c.number || code != c.code || steps != c.steps {
			t.Errorf("EagerNumber(%s, %s) = %d, %d, %d, not %d, %d, %d", c.program, c.text, n, code, steps, c.number, c.code, c.steps)
		}
		if n, code, steps := impl.NumberNeed(p, e, impl.MaxFuel); n != c.number || code != c.needCode || steps != c.needSteps {
			t.Errorf("NumberNeed(%s, %s) = %d, %d, %d, not %d, %d, %d", c.program, c.text, n, code, steps, c.number, c.needCode, c.needSteps)
		}
		for fuel := range 25 {
			checkEager(t, p, e, fuel)
		}
	}
}

// checkEager checks EagerNumber by the steps on graphs of the tests, and by
// NumberNeed, and returns its code and the longest way to a step.
func checkEager(t *testing.T, p []impl.Def, e impl.Expr, fuel int) (int, int) {
	t.Helper()
	want, wantCode, wantSteps, longest := eagerBy(p, e, fuel)
	n, code, steps := impl.EagerNumber(p, e, fuel)
	if n != want || code != wantCode || steps != wantSteps {
		t.Errorf("EagerNumber(%s, %s, %d) = %d, %d, %d, not %d, %d, %d", impl.FormatProgram(p), impl.FormatExpr(e), fuel, n, code, steps, want, wantCode, wantSteps)
	}
	need, needCode, needSteps := impl.NumberNeed(p, e, fuel)
	if (code == impl.EvalDone || needCode == impl.EvalDone) && (n != need || code != needCode || steps != needSteps) {
		t.Errorf("EagerNumber(%s, %s, %d) = %d, %d, %d, but NumberNeed = %d, %d, %d", impl.FormatProgram(p), impl.FormatExpr(e), fuel, n, code, steps, need, needCode, needSteps)
	}
	return code, longest
}

// TestRandomEager checks eager steps of random programs, which have the numbers
// of evaluation by need in as many steps.
func TestRandomEager(t *testing.T) {
	r := rand.New(rand.NewSource(94))
	var codes, ways [5]int
	for range 700 {
		p := callingProgram(r)
		for range 2 {
			e := callingExpr(r, p)
			code, longest := checkEager(t, p, e, 40)
			codes[code]++
			ways[min(longest, 4)]++
			checkEager(t, p, e, r.Intn(12))
		}
	}
	for code := range impl.EvalInvalid {
		if codes[code] < 100 {
			t.Errorf("the numbers of evaluations with each code are %v", codes)
		}
	}
	for _, many := range ways {
		if many < 10 {
			t.Errorf("the numbers of evaluations with each way are %v", ways)
		}
	}
}

// nested returns many calls of A around an expression, as a text.
func nested(many int, text string) string {
	return strings.Repeat("(A ", many) + text + strings.Repeat(")", many)
}

// TestLongWays has more calls in each other than a step goes through: those
// that are left over are made before their argument has a value.
func TestLongWays(t *testing.T) {
	for inside := range 13 {
		for outside := range 14 {
			// The other branch does not need b, so that the outer calls are made first.
			p := mustProgram(t, "A1=(a+1);B2=[a?"+nested(outside, "b")+":1];")
			calls := inside + outside
			left := max(calls-impl.MaxDepth, 0)
			stuck := mustExpr(t, "((B 0) "+nested(inside, "(1 2)")+")")
			if n, code, steps := impl.EagerNumber(p, stuck, impl.MaxFuel); n != 0 || code != impl.EvalStuck || steps != 2+left {
				t.Errorf("with %d calls, EagerNumber = %d, %d, %d", calls, n, code, steps)
			}
			// By need, all of the calls are made.
			if n, code, steps := impl.NumberNeed(p, stuck, impl.MaxFuel); n != 0 || code != impl.EvalStuck || steps != 2+calls {
				t.Errorf("with %d calls, NumberNeed = %d, %d, %d", calls, n, code, steps)
			}
			sum := mustExpr(t, "((B 0) "+nested(inside, "(1+2)")+")")
			if n, code, steps := impl.EagerNumber(p, sum, impl.MaxFuel); n != 3+calls || code != impl.EvalDone || steps != 3+2*calls {
				t.Errorf("with %d calls, EagerNumber = %d, %d, %d", calls, n, code, steps)
			}
			checkEager(t, p, stuck, left)
			checkEager(t, p, sum, 10)
		}
	}
}

func TestInvalidEager(t *testing.T) {
	invalidEvaluations(t, func(p []impl.Def, e impl.Expr, fuel int) {
		if n, code, steps := impl.EagerNumber(p, e, fuel); n != 0 || code != impl.EvalInvalid || steps != 0 {
			t.Errorf("EagerNumber(%v, %v, %d) = %d, %d, %d", p, e, fuel, n, code, steps)
		}
	})
}

func TestEagerOfLimits(t *testing.T) {
	p := mustProgram(t, "A1=(a+a);B1=(B a);")
	for _, e := range []impl.Expr{fullTree(59), callOf(0, fullTree(57)), mustExpr(t, nested(14, "1")), callOf(1, fullTree(57)), chain(15, number(1))} {
		for _, fuel := range []int{0, 1, 27, 28, 29, 30, impl.MaxFuel - 1, impl.MaxFuel} {
			checkEager(t, p, e, fuel)
		}
	}
	// As much room as there is, and no more.
	q := mustProgram(t, "A1=[a?0:(1+(A (a-1)))];")
	for _, text := range []string{"(A 40)", "(A 43)", "(A 44)", "(A 45)", "(A 46)", "(A 50)"} {
		checkEager(t, q, mustExpr(t, text), impl.MaxFuel)
	}
}

func TestEagerChangesNoArguments(t *testing.T) {
	const program, text = "A2=[a?b:((A (a-1)) (b+b))];", "((A (1+2)) (1+1))"
	p, e := mustProgram(t, program), mustExpr(t, text)
	for range 2 {
		if n, code, steps := impl.EagerNumber(p, e, 50); n != 16 || code != impl.EvalDone || steps != 16 {
			t.Errorf("EagerNumber = %d, %d, %d", n, code, steps)
		}
		if !samePrograms(p, mustProgram(t, program)) || !equal(e, mustExpr(t, text)) {
			t.Error("EagerNumber changes its arguments")
		}
	}
}
