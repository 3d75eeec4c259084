package tests

import (
	"math/rand"
	"testing"

	"loop.example/graphreducer/impl"
)

// programWithout returns a random program, and expressions that have no value with it.
func programWithout(t *testing.T, r *rand.Rand) ([]impl.Def, []impl.Expr) {
	t.Helper()
	p := callingProgram(r)
	for len(p) == allDefs {
		p = callingProgram(r)
	}
	endless := global(len(p))
	p = append(p, impl.Def{Body: endless})
	return p, []impl.Expr{mustExpr(t, "(1 2)"), mustExpr(t, "~3"), mustExpr(t, "[<1,2>?3:4]"), mustExpr(t, "(<1,2>+3)"), endless}
}

// hasValue reports whether a closed expression has a value by name or by need.
func hasValue(p []impl.Def, e impl.Expr) bool {
	_, byName, _ := impl.EvalName(p, e, impl.MaxFuel)
	g, root, _ := impl.BuildGraph(e, len(p))
	_, byNeed, _ := impl.EvalGraph(p, g, root, impl.MaxFuel)
	return byName == impl.EvalDone || byNeed == impl.EvalDone
}

// tally counts what is needed, and what is not and leaves a value without its own.
type tally struct{ needed, other int }

// count checks that an expression has no value without that of a variable that is needed.
func (c *tally) count(t *testing.T, p []impl.Def, e impl.Expr, isNeeded bool) {
	t.Helper()
	got := hasValue(p, e)
	switch {
	case isNeeded && got:
		t.Fatalf("%s has a value with %s, but needs one that has none", impl.FormatExpr(e), impl.FormatProgram(p))
	case isNeeded:
		c.needed++
	case got:
		c.other++
	}
}

// check checks that there were enough of both kinds.
func (c *tally) check(t *testing.T) {
	t.Helper()
	if c.needed < 500 || c.other < 500 {
		t.Errorf("%d variables are needed, and without %d others there is a value", c.needed, c.other)
	}
}

// argumentsOf returns as many arguments as a function has, and now and then some more.
func argumentsOf(r *rand.Rand, p []impl.Def, f int) []impl.Expr {
	many := p[f].Arity
	if r.Intn(3) == 0 {
		many += r.Intn(3)
	}
	var args []impl.Expr
	for range many {
		if r.Intn(2) == 0 {
			args = append(args, number(r.Intn(3)))
		} else {
			args = append(args, randomNumber(r, 0, p, 1+r.Intn(3)))
		}
	}
	return args
}

// TestNeededArgumentsHaveValues is promise 9, for random programs: without the
// value of an argument that is needed, no call has one.
func TestNeededArgumentsHaveValues(t *testing.T) {
	r := rand.New(rand.NewSource(95))
	var c tally
	for range 2400 {
		p, without := programWithout(t, r)
		need := impl.StrictArgs(p)
		for f, d := range p {
			args := argumentsOf(r, p, f)
			if !impl.ExprValid(callOf(f, args...), 0, len(p)) || !hasValue(p, callOf(f, args...)) {
				continue
			}
			for v := range d.Arity {
				before := args[v]
				args[v] = without[r.Intn(len(without))]
				e := callOf(f, args...)
				args[v] = before
				if impl.ExprValid(e, 0, len(p)) {
					c.count(t, p, e, need[f][v])
				}
			}
		}
	}
	c.check(t)
}

// TestNeededVariablesHaveValues is the same for the variables of expressions.
func TestNeededVariablesHaveValues(t *testing.T) {
	r := rand.New(rand.NewSource(96))
	var c tally
	for range 4000 {
		p, without := programWithout(t, r)
		need := impl.StrictArgs(p)
		e := randomNumber(r, allVars, p, 1+r.Intn(5))
		for v := range allVars {
			args := []impl.Expr{number(0), number(1), number(0), number(2)}
			full, ok := impl.SubstExpr(e, args)
			if !ok || !impl.ExprValid(full, 0, len(p)) || !hasValue(p, full) {
				continue
			}
			args[v] = without[r.Intn(len(without))]
			if full, ok := impl.SubstExpr(e, args); ok {
				c.count(t, p, full, impl.StrictIn(e, v, need))
			}
		}
	}
	c.check(t)
}

// TestUnusedArgumentsDoNotMatter compares calls with other unused arguments.
func TestUnusedArgumentsDoNotMatter(t *testing.T) {
	r := rand.New(rand.NewSource(97))
	compared := 0
	for range 1500 {
		p, without := programWithout(t, r)
		for f, unused := range impl.UnusedArgs(p) {
			args := argumentsOf(r, p, f)
			e := callOf(f, args...)
			for v, isUnused := range unused {
				if isUnused {
					args[v] = without[r.Intn(len(without))]
				}
			}
			other := callOf(f, args...)
			if !impl.ExprValid(e, 0, len(p)) || !impl.ExprValid(other, 0, len(p)) {
				continue
			}
			n, code := impl.NumberName(p, e, 50)
			m, otherCode := impl.NumberName(p, other, 50)
			if n != m || code != otherCode {
				t.Fatalf("%s and %s have %d, %d and %d, %d with %s", impl.FormatExpr(e), impl.FormatExpr(other), n, code, m, otherCode, impl.FormatProgram(p))
			}
			if code == impl.EvalDone && !equal(e, other) {
				compared++
			}
		}
	}
	if compared < 300 {
		t.Errorf("%d calls with unused arguments are compared", compared)
	}
}
