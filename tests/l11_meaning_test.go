package tests

import (
	"math/rand"
	"slices"
	"testing"

	"loop.example/graphreducer/impl"
)

// liftedEnds counts how often the term and what it is lifted to have some codes,
// and of those with a number, how many have calls, and functions with variables
// that are bound outside.
type liftedEnds struct {
	codes            [impl.EvalInvalid][impl.EvalInvalid]int
	calls, capturing int
}

// compare checks promise 11 for a term: the expression to which it is lifted has
// its number, by as many steps by name as there are calls and sums, and by need
// in no more. If one of them has no number, the other has none either, unless
// there is no room or fuel for it: by name, the whole expression must have room,
// but an abstraction of any size is no more than its function there.
func (l *liftedEnds) compare(t *testing.T, x impl.Term) {
	t.Helper()
	p, e, ok := impl.LiftTerm(x)
	if !ok {
		return
	}
	m := termMachine{fuel: termFuel}
	want, wantCode := m.number(x)
	n, code := impl.NumberTerm(x, termFuel)
	if n != want || code != wantCode {
		t.Fatalf("NumberTerm(%s) = %d, %d, not %d, %d", termTextBy(x), n, code, want, wantCode)
	}
	byName, nameCode := impl.NumberName(p, e, impl.MaxFuel)
	byNeed, needCode, needSteps := impl.NumberNeed(p, e, impl.MaxFuel)
	_, _, steps := impl.EvalName(p, e, impl.MaxFuel)
	what := termTextBy(x) + " lifted to " + impl.FormatProgram(p) + impl.FormatExpr(e)
	l.codes[code][nameCode]++
	if isEnd(code) && isEnd(nameCode) && (code != nameCode || byName != n || steps != m.calls+m.sums) {
		t.Fatalf("%s has %d, %d after %d calls and %d sums, and by name %d, %d after %d steps", what, n, code, m.calls, m.sums, byName, nameCode, steps)
	}
	if isEnd(code) && isEnd(needCode) && (code != needCode || byNeed != n) {
		t.Fatalf("%s has %d, %d, and by need %d, %d", what, n, code, byNeed, needCode)
	}
	if code == impl.EvalDone && needCode == impl.EvalDone && needSteps > m.calls+m.sums {
		t.Fatalf("%s has %d steps by need, for %d calls and %d sums", what, needSteps, m.calls, m.sums)
	}
	if code == impl.EvalDone && nameCode == impl.EvalDone {
		l.calls += min(m.calls, 1)
		l.capturing += max(min(mostArgs(x), 2)-1, 0)
	}
	// There is no other reason why one of them has an end and the other has none.
	if isEnd(code) && nameCode == impl.EvalFuel && m.calls+m.sums < impl.MaxFuel {
		t.Fatalf("%s has the code %d after %d calls and %d sums, and no fuel by name", what, code, m.calls, m.sums)
	}
	if isEnd(nameCode) && code == impl.EvalFuel && steps < termFuel {
		t.Fatalf("%s has the code %d after %d steps by name, and no fuel", what, nameCode, steps)
	}
}

// isEnd reports whether an evaluation with a code has neither too little fuel nor too little room.
func isEnd(code int) bool { return code == impl.EvalDone || code == impl.EvalStuck }

func TestLiftedTermsHaveTheNumber(t *testing.T) {
	r := rand.New(rand.NewSource(117))
	var l liftedEnds
	for i := range 30000 {
		if i%3 == 0 {
			l.compare(t, randomClosedTerm(r))
		} else {
			l.compare(t, randomNumberTerm(r))
		}
	}
	if l.codes[impl.EvalDone][impl.EvalDone] < 10000 || l.codes[impl.EvalStuck][impl.EvalStuck] < 1000 || l.calls < 5000 || l.capturing < 1000 {
		t.Errorf("there are %v codes, %d terms with calls, and %d with variables that are bound outside", l.codes, l.calls, l.capturing)
	}
}

func TestLiftedTerms(t *testing.T) {
	var l liftedEnds
	for _, c := range []struct {
		text string
		n    int
	}{
		{"999", 999}, {"(.5 (1 2))", 5}, {"(.5 " + omega + ")", 5}, {"((..#1 4) 5)", 4}, {"((..#0 4) 5)", 5}, {"(((...#2 1) 2) 3)", 1}, {"(((...#1 1) 2) 3)", 2},
		{"((((....(#3+(#2+(#1+#0))) 1) 20) 300) 600)", 921}, {"(.(.(.(#0+(#1+#2)) 1) 20) 300)", 321}, {"((.(.#1 #0) 6)+(..#0 (1 2)))", -1},
		{"(.(#0 (#0 2)) .(#0+1))", 4}, {"(.(.(#0 5) .(#0+#1)) 30)", 35}, {"((..(#1 (#1 #0)) .(#0+#0)) 3)", 12}, {"(((..(#1 (#1 #0)) ..(#1 (#1 #0))) .(#0+1)) 0)", 4},
		{"(.(#0 .(#0+1)) .(#0 41))", 42}, {"((.(#0 #0) ..(#0+1)) 6)", 7}, {"(((...((#2 #1)+(#2 #0)) .(#0+1)) 10) 20)", 32},
		{omega, -1}, {"(3 4)", -1}, {"(.#0+1)", -1}, {"..1", -1}, {"(" + omega + "+(1 2))", -1},
	} {
		x := mustTerm(t, c.text)
		p, e, _ := impl.LiftTerm(x)
		n, code := impl.NumberTerm(x, termFuel)
		m, nameCode := impl.NumberName(p, e, impl.MaxFuel)
		if done := c.n >= 0; (code == impl.EvalDone) != done || done && n != c.n || nameCode != code || m != n {
			t.Errorf("%s has %d, %d, and lifted %d, %d", c.text, n, code, m, nameCode)
		}
		l.compare(t, x)
	}
}

// smallTerms calls what for all terms of the given number of nodes in some
// abstractions, with few numbers.
func smallTerms(nodes int, lams int, what func(impl.Term)) {
	if nodes == 1 {
		what(numeral(1))
		what(numeral(500))
		for v := range lams {
			what(bound(v))
		}
		return
	}
	smallTerms(nodes-1, lams+1, func(body impl.Term) { what(lam(body)) })
	for first := 1; first < nodes-1; first++ {
		smallTerms(first, lams, func(a impl.Term) {
			smallTerms(nodes-1-first, lams, func(b impl.Term) {
				what(applyTerm(a, b))
				what(addTerms(a, b))
			})
		})
	}
}

// TestSmallTerms checks all terms of a few nodes.
func TestSmallTerms(t *testing.T) {
	var l liftedEnds
	var counts []int
	for nodes := 1; nodes <= 7; nodes++ {
		many := 0
		smallTerms(nodes, 0, func(x impl.Term) {
			if sizeOfTerm(x).lams > impl.MaxLams {
				return
			}
			many++
			if nodes < 7 {
				checkTerm(t, x)
				checkLift(t, x)
			}
			l.compare(t, x)
		})
		counts = append(counts, many)
	}
	if slices.Min(counts) < 2 || slices.Max(counts) < 4000 {
		t.Errorf("there are %v small terms", counts)
	}
	for code, row := range l.codes {
		for nameCode, many := range row {
			if code != nameCode && many > 0 {
				t.Errorf("%d small terms have the code %d, and lifted %d", many, code, nameCode)
			}
		}
	}
}

// TestLiftedTermsByOtherEvaluations compares numbers by the other evaluations.
func TestLiftedTermsByOtherEvaluations(t *testing.T) {
	r := rand.New(rand.NewSource(118))
	compared := 0
	for range 1500 {
		x := randomNumberTerm(r)
		p, e, ok := impl.LiftTerm(x)
		n, code := impl.NumberTerm(x, termFuel)
		if !ok || code != impl.EvalDone {
			continue
		}
		if m, code := impl.NumberRun(p, e, impl.MaxFuel, 20, true); code == impl.EvalDone && m != n {
			t.Fatalf("%s has %d, and with collections %d", termTextBy(x), n, m)
		}
		if m, code, _ := impl.EagerNumber(p, e, impl.MaxFuel); code == impl.EvalDone && m != n {
			t.Fatalf("%s has %d, and with eager steps %d", termTextBy(x), n, m)
		} else if code == impl.EvalDone {
			compared++
		}
	}
	if compared < 1000 {
		t.Errorf("%d terms are compared", compared)
	}
}
