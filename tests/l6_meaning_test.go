package tests

import (
	"math/rand"
	"testing"

	"loop.example/graphreducer/impl"
)

// allLimits has the ends of the limits of cells, and some between them.
var allLimits = []int{0, 1, 12, 60, 200, 399, 400}

// checkRuns checks the functions of runs against plain ticks, and returns the run and its code.
func checkRuns(t *testing.T, r *rand.Rand, p []impl.Def, e impl.Expr, fuel int, limit int, tidy bool) (impl.Run, int) {
	t.Helper()
	what := impl.FormatProgram(p) + impl.FormatExpr(e)
	want, wantCode := runBy(r, p, e, fuel, limit, tidy)
	x, code := impl.EvalRun(p, e, fuel, limit, tidy)
	checkRun(t, "EvalRun of "+what, x, code, want, wantCode)
	number, end := numberOf(want, wantCode)
	if n, ends := impl.NumberRun(p, e, fuel, limit, tidy); n != number || ends != end {
		t.Fatalf("NumberRun of %s = %d, %d, not %d, %d", what, n, ends, number, end)
	}
	most, end := peakBy(r, p, e, fuel, tidy)
	if peak, ends := impl.PeakCells(p, e, fuel, tidy); peak != most || ends != end {
		t.Fatalf("PeakCells of %s = %d, %d, not %d, %d", what, peak, ends, most, end)
	}
	return x, code
}

func TestRandomRuns(t *testing.T) {
	r := rand.New(rand.NewSource(73))
	var codes [impl.EvalInvalid]int
	skipped := 0
	for range 2000 {
		p := randomProgram(r)
		x, code := checkRuns(t, r, p, randomClosed(r, p), r.Intn(50), someLimit(r), r.Intn(2) == 0)
		codes[code]++
		if x.Ticks > x.Steps && code == impl.EvalDone {
			skipped++
		}
	}
	if codes[impl.EvalDone] < 500 || codes[impl.EvalFuel] < 50 || codes[impl.EvalStuck] < 50 || skipped < 20 {
		t.Errorf("the numbers of runs with each code are %v, and %d end with a collection", codes, skipped)
	}
}

// TestRunsOfManyCells checks runs that have no room without collections, or even with them.
func TestRunsOfManyCells(t *testing.T) {
	r := rand.New(rand.NewSource(77))
	for _, c := range []struct{ program, text string }{
		{grows, "(A 1)"}, {chunks, "((A 11) <7,0>)"}, {chunks, "((A 12) <7,0>)"}, {doubles, "(A 7)"}, {leaks, "((A 40) 9)"},
	} {
		for _, limit := range []int{0, 150, 400} {
			for _, tidy := range []bool{false, true} {
				checkRuns(t, r, mustProgram(t, c.program), mustExpr(t, c.text), impl.MaxFuel, limit, tidy)
			}
		}
	}
}

// checkTicks checks that an evaluation is made of the ticks of StepRun.
func checkTicks(t *testing.T, p []impl.Def, e impl.Expr, fuel int, limit int, tidy bool) {
	t.Helper()
	want, wantCode := impl.EvalRun(p, e, fuel, limit, tidy)
	x, _ := impl.StartRun(p, e)
	code := impl.EvalDone
	for code == impl.EvalDone && !impl.IsValue(p, x.Graph, x.Root) {
		if x.Ticks == fuel {
			code = impl.EvalFuel
			break
		}
		ticks := x.Ticks
		x, code = impl.StepRun(p, x, limit, tidy)
		x.Ticks = ticks + 1
	}
	checkRun(t, "EvalRun of "+impl.FormatProgram(p)+impl.FormatExpr(e), want, wantCode, x, code)
}

func TestRunsAreTicks(t *testing.T) {
	r := rand.New(rand.NewSource(74))
	for range 1500 {
		p := randomProgram(r)
		checkTicks(t, p, randomClosed(r, p), r.Intn(60), someLimit(r), r.Intn(2) == 0)
	}
	for _, program := range []string{grows, chunks, doubles, leaks} {
		for _, text := range []string{"(A 1)", "((A 3) <7,0>)", "((A 30) <7,0>)"} {
			for _, limit := range allLimits {
				checkTicks(t, mustProgram(t, program), mustExpr(t, text), impl.MaxFuel, limit, limit%2 == 0)
			}
		}
	}
}

// checkPlain checks that collections that do not tidy change nothing but the
// cells: there are as many steps, to the same number, with each limit.
func checkPlain(t *testing.T, p []impl.Def, e impl.Expr, fuel int) (impl.Run, int) {
	t.Helper()
	what := impl.FormatProgram(p) + impl.FormatExpr(e)
	first, code := impl.EvalRun(p, e, fuel, 0, false)
	number, end := numberOf(first, code)
	for _, limit := range allLimits {
		x, c := impl.EvalRun(p, e, fuel, limit, false)
		n, ends := numberOf(x, c)
		if n != number || ends != end || c != code || x.Steps != first.Steps || x.Ticks != first.Ticks {
			t.Fatalf("a run of %s has %d, %d with the limit %d, and %d, %d with 0", what, n, ends, limit, number, end)
		}
		if x.Rounds > first.Rounds || x.Peak < first.Peak {
			t.Fatalf("a run of %s has %d rounds and the peak %d with the limit %d, and %d and %d with 0", what, x.Rounds, x.Peak, limit, first.Rounds, first.Peak)
		}
	}
	// Without room, evaluation by need ends earlier, since it collects nothing.
	need, needCode, steps := impl.NumberNeed(p, e, fuel)
	if needCode == impl.EvalLarge {
		if steps > first.Steps {
			t.Fatalf("a run of %s has %d steps, and evaluation by need %d", what, first.Steps, steps)
		}
	} else if need != number || needCode != end || steps != first.Steps {
		t.Fatalf("a run of %s has %d, %d after %d steps, and evaluation by need %d, %d after %d", what, number, end, first.Steps, need, needCode, steps)
	}
	if byName, nameCode := impl.NumberName(p, e, fuel); nameCode == impl.EvalDone && end != impl.EvalLarge && (byName != number || end != impl.EvalDone) {
		t.Fatalf("a run of %s has %d, %d, and evaluation by name %d", what, number, end, byName)
	}
	return first, code
}

// checkTidied checks that collections that tidy change no number, and make no more steps.
func checkTidied(t *testing.T, p []impl.Def, e impl.Expr, fuel int, plain impl.Run, plainCode int) bool {
	t.Helper()
	number, end := numberOf(plain, plainCode)
	// What is enough fuel and room for more steps and cells is enough for fewer.
	sure := plainCode == impl.EvalDone || plainCode == impl.EvalStuck
	fewer := false
	for _, limit := range allLimits {
		x, code := impl.EvalRun(p, e, fuel, limit, true)
		n, ends := numberOf(x, code)
		if sure && (n != number || ends != end || x.Steps > plain.Steps || x.Ticks > plain.Ticks) {
			t.Fatalf("a run of %s%s with the limit %d has %d, %d after %d steps, and without tidying %d, %d after %d",
				impl.FormatProgram(p), impl.FormatExpr(e), limit, n, ends, x.Steps, number, end, plain.Steps)
		}
		fewer = fewer || sure && x.Steps < plain.Steps
	}
	return fewer
}

// TestCollectionsChangeNoNumber checks promise 6.
func TestCollectionsChangeNoNumber(t *testing.T) {
	r := rand.New(rand.NewSource(75))
	var codes [impl.EvalInvalid]int
	fewer := 0
	for range 1500 {
		p := randomProgram(r)
		e := randomClosed(r, p)
		plain, code := checkPlain(t, p, e, 80)
		codes[code]++
		if checkTidied(t, p, e, 80, plain, code) {
			fewer++
		}
	}
	if codes[impl.EvalDone] < 500 || codes[impl.EvalFuel] < 30 || codes[impl.EvalStuck] < 100 || fewer < 50 {
		t.Errorf("the numbers of runs with each code are %v, and %d have fewer steps", codes, fewer)
	}
}

// TestPeaksAreLive checks that the greatest number of live cells is that of a
// run that is collected before each step, and no greater if it is tidied.
func TestPeaksAreLive(t *testing.T) {
	r := rand.New(rand.NewSource(76))
	for range 2000 {
		p := randomProgram(r)
		e := randomClosed(r, p)
		x, _ := impl.StartRun(p, e)
		most := 0
		for {
			live, _ := impl.LiveCells(x.Graph, []int{x.Root})
			most = max(most, live)
			if impl.IsValue(p, x.Graph, x.Root) || x.Steps == 80 {
				break
			}
			next, code := impl.StepRun(p, x, 0, false)
			if code != impl.EvalDone {
				break
			}
			x = next
		}
		peak, code := impl.PeakCells(p, e, 80, false)
		_, wantCode := impl.EvalRun(p, e, 80, 0, false)
		if peak != most || code != wantCode {
			t.Fatalf("PeakCells of %s%s = %d, %d, not %d, %d", impl.FormatProgram(p), impl.FormatExpr(e), peak, code, most, wantCode)
		}
		if tidied, end := impl.PeakCells(p, e, 80, true); code == impl.EvalDone && (tidied > peak || end != code) {
			t.Fatalf("PeakCells of %s%s = %d, %d if it is tidied, and %d otherwise", impl.FormatProgram(p), impl.FormatExpr(e), tidied, end, peak)
		}
	}
}

// TestNumbersNeedCollections checks numbers for which there is no room without collections.
func TestNumbersNeedCollections(t *testing.T) {
	for _, c := range []struct {
		program string
		text    string
		number  int
		steps   int
	}{
		{doubles, "(A 7)", 7, 243},
		{"A2=[a?b:((A (a-1)) (b+b))];", "((A 70) 1)", 424, 282},
		{"A1=[a?5:(A (a-1))];", "(A 75)", 5, 227},
		{"A2=[a?b:((A (a-1)) (b+a))];", "((A 70) 0)", 485, 282},
		{chunks, "((A 11) <7,0>)", 7, 36},
	} {
		p, e := mustProgram(t, c.program), mustExpr(t, c.text)
		if n, code, _ := impl.NumberNeed(p, e, impl.MaxFuel); n != 0 || code != impl.EvalLarge {
			t.Errorf("NumberNeed(%s) = %d, %d", c.text, n, code)
		}
		plain, code := checkPlain(t, p, e, impl.MaxFuel)
		if n, end := numberOf(plain, code); n != c.number || end != impl.EvalDone || plain.Steps != c.steps {
			t.Errorf("a run of %s has %d, %d after %d steps", c.text, n, end, plain.Steps)
		}
		checkTidied(t, p, e, impl.MaxFuel, plain, code)
		plain, code = checkPlain(t, p, e, c.steps-1)
		if code != impl.EvalFuel {
			t.Errorf("a run of %s has the code %d without enough fuel", c.text, code)
		}
	}
}

// TestNumbersNeedTidying checks a number for which there is room only if selections are removed.
func TestNumbersNeedTidying(t *testing.T) {
	p, e := mustProgram(t, leaks), mustExpr(t, "((A 40) 9)")
	for _, limit := range allLimits {
		if n, code := impl.NumberRun(p, e, impl.MaxFuel, limit, false); n != 0 || code != impl.EvalLarge {
			t.Errorf("NumberRun(%d) = %d, %d", limit, n, code)
		}
		if n, code := impl.NumberRun(p, e, impl.MaxFuel, limit, true); n != 9 || code != impl.EvalDone {
			t.Errorf("NumberRun(%d) = %d, %d if it is tidied", limit, n, code)
		}
	}
	if peak, code := impl.PeakCells(p, e, impl.MaxFuel, true); peak > 30 || code != impl.EvalDone {
		t.Errorf("PeakCells = %d, %d", peak, code)
	}
	if peak, code := impl.PeakCells(p, e, impl.MaxFuel, false); peak < 380 || code != impl.EvalLarge {
		t.Errorf("PeakCells = %d, %d without tidying", peak, code)
	}
}
