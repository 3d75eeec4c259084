package tests

import (
	"math/rand"
	"testing"

	"loop.example/graphreducer/impl"
)

// needCases has programs with the number and the steps of an evaluation by need.
var needCases = []struct {
	program, text       string
	number, code, steps int
}{
	{"A1=(a+a);", "(A (1+1))", 4, impl.EvalDone, 3},
	{"A1=(a+a);", "(A (A (A 1)))", 8, impl.EvalDone, 6},
	{"", "7", 7, impl.EvalDone, 0},
	{"", "(999+(2-3))", 998, impl.EvalDone, 2},
	// A function without arguments, in two places and in a shared one.
	{"A0=(1+2);", "(A+A)", 6, impl.EvalDone, 5},
	{"A0=(1+2);B1=(a+a);", "(B A)", 6, impl.EvalDone, 4},
	{"A0=B;B1=(a+a);C1=((a 1)+(a 2));", "(C A)", 6, impl.EvalDone, 7},
	// More arguments than the arity, also of a call that is shared.
	{"A1=a;", "((A A) 5)", 5, impl.EvalDone, 2},
	{"A1=a;", "(((A A) A) 5)", 5, impl.EvalDone, 3},
	{"A1=B;B1=a;C1=((a 1)+(a 2));", "(C (A 7))", 3, impl.EvalDone, 5},
	{"A3=((a c) (b c));B2=a;C0=((A B) B);", "(C 7)", 7, impl.EvalDone, 3},
	// Parts of pairs are shared, and only evaluated if they are needed.
	{"A1=(~a+~a);", "(A <(1+2),A>)", 6, impl.EvalDone, 5},
	{"A1=(~a+~a);B1=<a,a>;", "(A (B (1+2)))", 6, impl.EvalDone, 6},
	{"A0=A;", "~<1,A>", 1, impl.EvalDone, 1},
	{"A2=a;B0=B;", "((A 4) B)", 4, impl.EvalDone, 1},
	{"A0=<1,A>;", "~^^^A", 1, impl.EvalDone, 8},
	{"A1=[a?1:(a+(A (a-1)))];", "(A 3)", 7, impl.EvalDone, 14},
	// Larger than by name.
	{"A2=[a?b:((A (a-1)) (b+b))];", "((A 3) 1)", 8, impl.EvalDone, 14},
	// Values that are no numbers, and other ends.
	{"", "<1,2>", 0, impl.EvalStuck, 0},
	{"A1=a;", "A", 0, impl.EvalStuck, 0},
	{"A2=a;", "(A 1)", 0, impl.EvalStuck, 0},
	{"A1=a;", "~<A,1>", 0, impl.EvalStuck, 1},
	{"A1=(a+a);", "(A <1,2>)", 0, impl.EvalStuck, 1},
	{"", "(1 2)", 0, impl.EvalStuck, 0},
	{"", "~(1+2)", 0, impl.EvalStuck, 1},
	{"A1=(B a);B1=(A a);", "(A 1)", 0, impl.EvalLarge, 198},
	{"A1=(A <a,a>);", "(A 1)", 0, impl.EvalLarge, 132},
	{"A1=(A (a+1));", "~(A 1)", 0, impl.EvalLarge, 99},
	{"A0=A;", "A", 0, impl.EvalFuel, 300},
}

func TestNumberNeed(t *testing.T) {
	for _, c := range needCases {
		p, e := mustProgram(t, c.program), mustExpr(t, c.text)
		fuels := []int{0, 1, 2, 3, 4, 5, 6, 7, 8, c.steps - 1, c.steps, c.steps + 1, impl.MaxFuel - 1, impl.MaxFuel}
		for _, fuel := range fuels {
			if fuel < 0 || fuel > impl.MaxFuel {
				continue
			}
			// A value that is no number shows without fuel for a step, and a missing step does not.
			g, root, _ := impl.BuildGraph(e, len(p))
			_, end, _ := impl.EvalGraph(p, g, root, impl.MaxFuel)
			want, code, steps := c.number, c.code, c.steps
			if fuel < steps || fuel == steps && end != impl.EvalDone {
				want, code, steps = 0, impl.EvalFuel, fuel
			}
			if n, got, many := impl.NumberNeed(p, e, fuel); n != want || got != code || many != steps {
				t.Errorf("NumberNeed(%s, %s, %d) = %d, %d, %d, not %d, %d, %d", c.program, c.text, fuel, n, got, many, want, code, steps)
			}
		}
	}
}

// checkNeed checks an evaluation by need by that of the sharer, and returns its code.
func checkNeed(t *testing.T, p []impl.Def, e impl.Expr, fuel int) int {
	t.Helper()
	want, wantCode, wantSteps := numberBy(p, e, fuel)
	n, code, steps := impl.NumberNeed(p, e, fuel)
	if n != want || code != wantCode || steps != wantSteps {
		t.Errorf("NumberNeed(%s, %s, %d) = %d, %d, %d, not %d, %d, %d", impl.FormatProgram(p), impl.FormatExpr(e), fuel, n, code, steps, want, wantCode, wantSteps)
	}
	return code
}

func TestRandomNeeds(t *testing.T) {
	r := rand.New(rand.NewSource(45))
	var codes [impl.EvalInvalid]int
	for range 6000 {
		p := randomProgram(r)
		for range 3 {
			e := randomClosed(r, p)
			codes[checkNeed(t, p, e, impl.MaxFuel)]++
			checkNeed(t, p, e, r.Intn(12))
		}
	}
	for code, many := range codes {
		if many < 100 && code != impl.EvalFuel {
			t.Errorf("%d evaluations have the code %d", many, code)
		}
	}
}

func TestNeedsOfPrograms(t *testing.T) {
	for _, c := range needCases {
		p, e := mustProgram(t, c.program), mustExpr(t, c.text)
		for fuel := range 30 {
			checkNeed(t, p, e, fuel)
		}
		if code := checkNeed(t, p, e, impl.MaxFuel); code != c.code {
			t.Errorf("NumberNeed(%s, %s) has the code %d", c.program, c.text, code)
		}
	}
}

// comparison counts how evaluations by need and by name end.
type comparison struct{ numbers, fewer, stuck, onlyNeed int }

// compare checks evaluations by need and by name against each other.
func (c *comparison) compare(t *testing.T, p []impl.Def, e impl.Expr, fuel int) {
	t.Helper()
	_, _, nameSteps := impl.EvalName(p, e, fuel)
	name, nameCode := impl.NumberName(p, e, fuel)
	need, needCode, needSteps := impl.NumberNeed(p, e, fuel)
	// Without fuel or room by name, there can be more by need; and the other way
	// round only if there is no room for cells, of which there are none by name.
	ended := nameCode == impl.EvalDone || nameCode == impl.EvalStuck
	if ended && needCode != impl.EvalLarge && (needCode != nameCode || need != name) || nameCode == impl.EvalDone && needSteps > nameSteps || needCode == impl.EvalFuel && needSteps != fuel {
		t.Fatalf("%s with %s has %d, %d, %d by need, and %d, %d, %d by name", impl.FormatExpr(e), impl.FormatProgram(p), need, needCode, needSteps, name, nameCode, nameSteps)
	}
	switch {
	case nameCode == impl.EvalDone && needCode == impl.EvalDone:
		c.numbers++
		if needSteps < nameSteps {
			c.fewer++
		}
	case nameCode == impl.EvalStuck && needCode == impl.EvalStuck:
		c.stuck++
	case needCode == impl.EvalDone:
		c.onlyNeed++
	}
}

// TestNeedHasTheNumbersOfName is promise 4, for random programs.
func TestNeedHasTheNumbersOfName(t *testing.T) {
	r := rand.New(rand.NewSource(46))
	var c comparison
	for range 6000 {
		p := randomProgram(r)
		for range 3 {
			e := randomClosed(r, p)
			c.compare(t, p, e, impl.MaxFuel)
			c.compare(t, p, e, r.Intn(20))
		}
	}
	if c.numbers < 3000 || c.fewer < 100 || c.stuck < 1000 || c.onlyNeed < 50 {
		t.Errorf("the evaluations are %+v", c)
	}
	for _, x := range needCases {
		for _, fuel := range []int{5, 20, impl.MaxFuel} {
			c.compare(t, mustProgram(t, x.program), mustExpr(t, x.text), fuel)
		}
	}
}

// TestNeedHasTheNumbersOfTheMachine compares with the machine by name, for
// which no expression is too large.
func TestNeedHasTheNumbersOfTheMachine(t *testing.T) {
	r := rand.New(rand.NewSource(47))
	done, large := 0, 0
	for range 6000 {
		p := randomProgram(r)
		e := randomClosed(r, p)
		need, code, steps := impl.NumberNeed(p, e, impl.MaxFuel)
		m := machine{p: p, fuel: 2000}
		x, nameCode := m.value(e, nil)
		if code != impl.EvalDone || nameCode == impl.EvalFuel {
			if code == impl.EvalDone {
				large++
			}
			continue
		}
		done++
		if nameCode != impl.EvalDone || x.op != impl.ExpNum || x.n != need || m.steps < steps {
			t.Fatalf("%s with %s has %d after %d steps by need, and %v, %d after %d by name", impl.FormatExpr(e), impl.FormatProgram(p), need, steps, x, nameCode, m.steps)
		}
	}
	if done < 1000 || large > done/20 {
		t.Errorf("%d numbers are compared, and %d are not", done, large)
	}
}

// checkForce checks ForceNumbers.
func checkForce(t *testing.T, program string, text string, many int, fuel int, wantCode int, want ...int) {
	t.Helper()
	list, code := impl.ForceNumbers(mustProgram(t, program), mustExpr(t, text), many, fuel)
	if code != wantCode {
		t.Errorf("ForceNumbers(%s, %s, %d, %d) = %v, %d", program, text, many, fuel, list, code)
	}
	checkInts(t, list, want)
}

func TestForceNumbers(t *testing.T) {
	const from = "A1=<a,(A (a+1))>;"
	all := []int{3, 4, 5, 6, 7, 8, 9, 10, 11, 12}
	for many := range 11 {
		checkForce(t, from, "(A 3)", many, impl.MaxFuel, impl.EvalDone, all[:many]...)
		// The first cell takes a step, and each other one two, of which the first one is for the pair.
		for fuel := range 25 {
			switch {
			case fuel == 0:
				checkForce(t, from, "(A 3)", many, fuel, impl.EvalFuel)
			case 2*many-1 <= fuel:
				checkForce(t, from, "(A 3)", many, fuel, impl.EvalDone, all[:many]...)
			default:
				checkForce(t, from, "(A 3)", many, fuel, impl.EvalFuel, all[:(fuel+1)/2]...)
			}
		}
	}
	checkForce(t, "", "<1,<2,<3,4>>>", 3, 0, impl.EvalDone, 1, 2, 3)
	checkForce(t, "", "<1,<2,<3,4>>>", 4, 0, impl.EvalStuck, 1, 2, 3)
	// Parts that are shared take no more steps.
	checkForce(t, "A1=<a,<a,<a,0>>>;", "(A (1+2))", 3, 2, impl.EvalDone, 3, 3, 3)
	checkForce(t, "A1=<a,(B a)>;B1=(A (a+a));", "(A (1+1))", 3, 8, impl.EvalDone, 2, 4, 8)
	checkForce(t, "A1=<a,(B a)>;B1=(A (a+a));", "(A (1+1))", 3, 7, impl.EvalFuel, 2, 4)
	checkForce(t, "A0=<5,A>;", "A", 10, 10, impl.EvalDone, 5, 5, 5, 5, 5, 5, 5, 5, 5, 5)
	checkForce(t, "A0=<5,A>;", "A", 10, 9, impl.EvalFuel, 5, 5, 5, 5, 5, 5, 5, 5, 5)
}

func TestForceNumbersEnds(t *testing.T) {
	// The list needs a value even if no number is asked for, but any one will do.
	checkForce(t, "", "(1+2)", 0, 1, impl.EvalDone)
	checkForce(t, "", "(1+2)", 0, 0, impl.EvalFuel)
	checkForce(t, "A1=a;", "A", 0, 0, impl.EvalDone)
	checkForce(t, "", "(1 2)", 0, 9, impl.EvalStuck)
	checkForce(t, "A0=A;", "A", 0, 9, impl.EvalFuel)
	checkForce(t, "A1=(A <a,a>);", "(A 1)", 0, impl.MaxFuel, impl.EvalLarge)
	// Values of another kind.
	for _, text := range []string{"5", "(1+2)", "A", "(B 1)", "<<1,2>,3>", "<A,3>", "<(B 1),3>", "~<6,7>"} {
		for _, many := range []int{1, 2, 10} {
			checkForce(t, "A1=a;B2=a;", text, many, 9, impl.EvalStuck)
		}
	}
	checkForce(t, "", "<1,2>", 2, 9, impl.EvalStuck, 1)
	checkForce(t, "", "<1,<<2,3>,4>>", 2, 9, impl.EvalStuck, 1)
	checkForce(t, "A1=a;", "<1,A>", 3, 9, impl.EvalStuck, 1)
	// A part that is stuck, without end or too large, as soon as it is needed.
	for _, c := range []struct {
		text string
		code int
	}{{"(1 2)", impl.EvalStuck}, {"B", impl.EvalFuel}, {"(A 1)", impl.EvalLarge}} {
		const program = "A1=(A <a,a>);B0=B;"
		checkForce(t, program, "<1,<2,"+c.text+">>", 2, impl.MaxFuel, impl.EvalDone, 1, 2)
		checkForce(t, program, "<1,<2,"+c.text+">>", 3, impl.MaxFuel, c.code, 1, 2)
		checkForce(t, program, "<1,<"+c.text+",2>>", 1, impl.MaxFuel, impl.EvalDone, 1)
		checkForce(t, program, "<1,<"+c.text+",2>>", 2, impl.MaxFuel, c.code, 1)
		checkForce(t, program, "<"+c.text+",<1,2>>", 1, impl.MaxFuel, c.code)
	}
}

func TestRandomForces(t *testing.T) {
	r := rand.New(rand.NewSource(48))
	codes, lengths := map[int]int{}, map[int]int{}
	for range 6000 {
		p := randomProgram(r)
		e := randomClosed(r, p)
		for range r.Intn(5) {
			if next := node(impl.ExpPair, 0, randomClosed(r, p), e); impl.ExprValid(next, 0, len(p)) {
				e = next
			}
		}
		many, fuel := r.Intn(11), r.Intn(20)*r.Intn(16)
		want, wantCode := numbersBy(p, e, many, fuel)
		list, code := impl.ForceNumbers(p, e, many, fuel)
		if code != wantCode {
			t.Fatalf("ForceNumbers(%s, %s, %d, %d) = %v, %d, not %v, %d", impl.FormatProgram(p), impl.FormatExpr(e), many, fuel, list, code, want, wantCode)
		}
		checkInts(t, list, want)
		codes[code]++
		lengths[len(list)]++
	}
	for code := range impl.EvalInvalid {
		if codes[code] < 20 {
			t.Errorf("the numbers of lists with each code are %v", codes)
		}
	}
	if lengths[1] < 50 || lengths[2] < 50 || lengths[3] < 20 {
		t.Errorf("the numbers of lists with each length are %v", lengths)
	}
}

// checkNoNeed checks the functions by need with arguments that are not valid.
func checkNoNeed(t *testing.T, p []impl.Def, e impl.Expr, fuel int) {
	t.Helper()
	if n, code, steps := impl.NumberNeed(p, e, fuel); n != 0 || code != impl.EvalInvalid || steps != 0 {
		t.Errorf("NumberNeed(%v, %v, %d) = %d, %d, %d", p, e, fuel, n, code, steps)
	}
	for _, many := range []int{-1, 0, 1, 10, 11} {
		if list, code := impl.ForceNumbers(p, e, many, fuel); len(list) != 0 || code != impl.EvalInvalid {
			t.Errorf("ForceNumbers(%v, %v, %d, %d) = %v, %d", p, e, many, fuel, list, code)
		}
	}
}

func TestInvalidNeeds(t *testing.T) {
	invalidEvaluations(t, func(p []impl.Def, e impl.Expr, fuel int) { checkNoNeed(t, p, e, fuel) })
	p := mustProgram(t, "A2=a;B0=1;")
	for _, many := range []int{-1, 11, 12, -1 << 63, 1<<63 - 1} {
		for _, text := range []string{"1", "<1,<2,3>>", "(1 2)", "B"} {
			if list, code := impl.ForceNumbers(p, mustExpr(t, text), many, 10); len(list) != 0 || code != impl.EvalInvalid {
				t.Errorf("ForceNumbers(%s, %d) = %v, %d", text, many, list, code)
			}
		}
	}
}

func TestNeedOfLimits(t *testing.T) {
	// The largest and the deepest expressions are valid.
	if n, code, steps := impl.NumberNeed(nil, fullTree(59), impl.MaxFuel); n != 30 || code != impl.EvalDone || steps != 29 {
		t.Errorf("NumberNeed = %d, %d, %d", n, code, steps)
	}
	if n, code, steps := impl.NumberNeed(nil, node(impl.ExpIf, 0, number(0), fullTree(57), number(1)), 29); n != 29 || code != impl.EvalDone || steps != 29 {
		t.Errorf("NumberNeed = %d, %d, %d", n, code, steps)
	}
	if n, code, steps := impl.NumberNeed(nil, chain(15, number(1)), impl.MaxFuel); n != 0 || code != impl.EvalStuck || steps != 0 {
		t.Errorf("NumberNeed = %d, %d, %d", n, code, steps)
	}
	// With fewer nodes than a limit by name, but more steps by name than fuel.
	p := mustProgram(t, "A1=(a+a);")
	e := number(1)
	for range 14 {
		e = node(impl.ExpApp, 0, global(0), e)
	}
	n, code, steps := impl.NumberNeed(p, e, impl.MaxFuel)
	if n != 16384%1000 || code != impl.EvalDone || steps != 28 {
		t.Errorf("NumberNeed = %d, %d, %d", n, code, steps)
	}
}

func TestNumbersWithoutRoomByNeed(t *testing.T) {
	// Each call is made once, and nothing is shared: only the cells are too many.
	p, e := mustProgram(t, "A1=(B (B a));B1=(C (C (C a)));C1=(D (D (D a)));D1=(E (E (E a)));E1=(F (F (F a)));F1=a;"), mustExpr(t, "(A 7)")
	if n, code := impl.NumberName(p, e, impl.MaxFuel); n != 7 || code != impl.EvalDone {
		t.Errorf("NumberName = %d, %d", n, code)
	}
	checkNeed(t, p, e, impl.MaxFuel)
	if n, code, _ := impl.NumberNeed(p, e, impl.MaxFuel); n != 0 || code != impl.EvalLarge {
		t.Errorf("NumberNeed = %d, %d", n, code)
	}
}

func TestNeedChangesNoArguments(t *testing.T) {
	const program, text = "A1=<a,(A (a+1))>;", "(A (1+2))"
	p, e := mustProgram(t, program), mustExpr(t, text)
	for range 2 {
		first, _ := impl.ForceNumbers(p, e, 3, 50)
		again, _ := impl.ForceNumbers(p, e, 3, 50)
		checkInts(t, first, []int{3, 4, 5})
		for i := range first {
			first[i] = -1
		}
		checkInts(t, again, []int{3, 4, 5})
		impl.NumberNeed(p, node(impl.ExpFst, 0, e), 50)
		if !samePrograms(p, mustProgram(t, program)) || !equal(e, mustExpr(t, text)) {
			t.Error("an evaluation by need changes its arguments")
		}
	}
}
