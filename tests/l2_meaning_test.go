package tests

import (
	"math/rand"
	"testing"

	"loop.example/graphreducer/impl"
)

// meaning is a value as a machine with environments finds it: a number, the
// delayed parts of a pair, or a function with the delayed arguments that it has.
type meaning struct {
	op   int
	n    int
	args []delayed
}

// delayed is an expression with what its variables are.
type delayed struct {
	e   impl.Expr
	env []delayed
}

// machine finds values without replacing anything in expressions, so that no
// result is too large for it. It makes as many steps as evaluation by name.
type machine struct {
	p     []impl.Def
	fuel  int
	steps int
}

// step counts a step, and reports whether there was fuel for it.
func (m *machine) step() bool {
	if m.steps == m.fuel {
		return false
	}
	m.steps++
	return true
}

// stuck returns the code of an evaluation that has no step, if there is fuel for trying one.
func (m *machine) stuck() int {
	if m.steps == m.fuel {
		return impl.EvalFuel
	}
	return impl.EvalStuck
}

func (m *machine) value(e impl.Expr, env []delayed) (meaning, int) {
	switch e.Op {
	case impl.ExpVar:
		return m.value(env[e.N].e, env[e.N].env)
	case impl.ExpNum:
		return meaning{op: e.Op, n: e.N}, impl.EvalDone
	case impl.ExpGlobal:
		return m.call(meaning{op: e.Op, n: e.N})
	case impl.ExpPair:
		return meaning{op: e.Op, args: []delayed{{e.Kids[0], env}, {e.Kids[1], env}}}, impl.EvalDone
	case impl.ExpAdd, impl.ExpSub:
		return m.sum(e, env)
	}
	first, code := m.value(e.Kids[0], env)
	if code != impl.EvalDone {
		return meaning{}, code
	}
	switch {
	case e.Op == impl.ExpApp && first.op == impl.ExpGlobal:
		args := append([]delayed{}, first.args...)
		return m.call(meaning{op: first.op, n: first.n, args: append(args, delayed{e.Kids[1], env})})
	case e.Op == impl.ExpIf && first.op == impl.ExpNum, e.Op != impl.ExpApp && e.Op != impl.ExpIf && first.op == impl.ExpPair:
		if !m.step() {
			return meaning{}, impl.EvalFuel
		}
		return m.chosen(e, env, first)
	}
	return meaning{}, m.stuck()
}

// call applies a function, if it has enough arguments.
func (m *machine) call(f meaning) (meaning, int) {
	d := m.p[f.n]
	if len(f.args) < d.Arity {
		return f, impl.EvalDone
	}
	if !m.step() {
		return meaning{}, impl.EvalFuel
	}
	return m.value(d.Body, f.args)
}

// chosen returns the value of the part or operand that a first operand chooses.
func (m *machine) chosen(e impl.Expr, env []delayed, first meaning) (meaning, int) {
	switch {
	case e.Op == impl.ExpFst:
		return m.value(first.args[0].e, first.args[0].env)
	case e.Op == impl.ExpSnd:
		return m.value(first.args[1].e, first.args[1].env)
	case first.n == 0:
		return m.value(e.Kids[1], env)
	}
	return m.value(e.Kids[2], env)
}

func (m *machine) sum(e impl.Expr, env []delayed) (meaning, int) {
	var numbers []int
	for _, k := range e.Kids {
		x, code := m.value(k, env)
		if code != impl.EvalDone {
			return meaning{}, code
		}
		if x.op != impl.ExpNum {
			return meaning{}, m.stuck()
		}
		numbers = append(numbers, x.n)
	}
	if !m.step() {
		return meaning{}, impl.EvalFuel
	}
	n := numbers[0] + numbers[1]
	if e.Op == impl.ExpSub {
		n = numbers[0] - numbers[1]
	}
	return meaning{op: impl.ExpNum, n: (n%1000 + 1000) % 1000}, impl.EvalDone
}

// checkMeaning checks an evaluation by name by that of the machine, and returns its code.
func checkMeaning(t *testing.T, p []impl.Def, e impl.Expr, fuel int) int {
	t.Helper()
	got, code, steps := impl.EvalName(p, e, fuel)
	n, numberCode := impl.NumberName(p, e, fuel)
	m := machine{p: p, fuel: fuel}
	if code == impl.EvalLarge {
		m.fuel = steps
	}
	want, wantCode := m.value(e, nil)
	if code == impl.EvalLarge {
		// The machine can make steps that are too large by name, but a step is missing there.
		if wantCode != impl.EvalFuel || m.steps != steps || n != 0 || numberCode != code || !isZero(got) {
			t.Errorf("EvalName(%s, %s, %d) = %v, %d, %d", impl.FormatProgram(p), impl.FormatExpr(e), fuel, got, code, steps)
		}
		return code
	}
	if code != wantCode || steps != m.steps || code == impl.EvalDone && !m.same(got, want) || code != impl.EvalDone && !isZero(got) {
		t.Errorf("EvalName(%s, %s, %d) = %v, %d, %d, not %v, %d, %d", impl.FormatProgram(p), impl.FormatExpr(e), fuel, got, code, steps, want, wantCode, m.steps)
	}
	if code == impl.EvalDone && want.op != impl.ExpNum {
		wantCode = impl.EvalStuck
	}
	if n != want.n && want.op != impl.ExpGlobal || want.op == impl.ExpGlobal && n != 0 || numberCode != wantCode {
		t.Errorf("NumberName(%s, %s, %d) = %d, %d", impl.FormatProgram(p), impl.FormatExpr(e), fuel, n, numberCode)
	}
	return code
}

// written returns an expression with what its variables are in their places.
func written(d delayed) impl.Expr {
	if d.e.Op == impl.ExpVar {
		return written(d.env[d.e.N])
	}
	e := node(d.e.Op, d.e.N)
	for _, k := range d.e.Kids {
		e.Kids = append(e.Kids, written(delayed{k, d.env}))
	}
	return e
}

// same reports whether an expression is the one of a meaning.
func (m *machine) same(e impl.Expr, x meaning) bool {
	want := node(x.op, x.n)
	for _, a := range x.args {
		if x.op == impl.ExpPair {
			want.Kids = append(want.Kids, written(a))
		} else {
			want = node(impl.ExpApp, 0, want, written(a))
		}
	}
	return equal(e, want)
}

// randomNumber returns an expression that often has a number, with pairs and calls.
func randomNumber(r *rand.Rand, vars int, p []impl.Def, depth int) impl.Expr {
	if depth == 1 || r.Intn(8) == 0 {
		if vars > 0 && r.Intn(3) > 0 {
			return variable(r.Intn(vars))
		}
		return number(r.Intn(3) * r.Intn(500))
	}
	part := func() impl.Expr { return randomNumber(r, vars, p, depth-1) }
	switch r.Intn(9) {
	case 0:
		return node(impl.ExpAdd, 0, part(), part())
	case 1:
		return node(impl.ExpSub, 0, part(), part())
	case 2, 3:
		return node(impl.ExpIf, 0, part(), part(), part())
	case 4:
		return node(impl.ExpFst, 0, node(impl.ExpPair, 0, part(), part()))
	case 5:
		return node(impl.ExpSnd, 0, node(impl.ExpPair, 0, part(), part()))
	case 6:
		return randomExpr(r, vars, len(p), min(depth, 3))
	}
	if len(p) == 0 {
		return part()
	}
	f := r.Intn(len(p))
	e := global(f)
	for range p[f].Arity {
		e = node(impl.ExpApp, 0, e, part())
	}
	if r.Intn(12) == 0 {
		e = node(impl.ExpApp, 0, e, part())
	}
	return e
}

// randomProgram returns a program that is valid.
func randomProgram(r *rand.Rand) []impl.Def {
	p := make([]impl.Def, r.Intn(allDefs+1))
	for i := range p {
		p[i].Arity = r.Intn(allVars + 1)
	}
	for i := range p {
		p[i].Body = number(1)
		body := randomNumber(r, p[i].Arity, p, 1+r.Intn(5))
		if impl.ExprValid(body, p[i].Arity, len(p)) {
			p[i].Body = body
		}
	}
	return p
}

// randomClosed returns an expression that is closed for a program.
func randomClosed(r *rand.Rand, p []impl.Def) impl.Expr {
	for {
		if e := randomNumber(r, 0, p, 1+r.Intn(6)); impl.ExprValid(e, 0, len(p)) {
			return e
		}
	}
}

func TestRandomMeanings(t *testing.T) {
	r := rand.New(rand.NewSource(6))
	var ends [impl.EvalInvalid]int
	for range 6000 {
		p := randomProgram(r)
		for range 3 {
			e := randomClosed(r, p)
			ends[checkMeaning(t, p, e, 60)]++
			checkMeaning(t, p, e, r.Intn(8))
		}
	}
	for code, many := range ends {
		if many < 100 {
			t.Errorf("%d evaluations have the code %d", many, code)
		}
	}
}

func TestMeaningsOfPrograms(t *testing.T) {
	cases := []struct {
		program, text string
		code          int
	}{
		{"A1=[a?0:(a+(A (a-1)))];", "(A 3)", impl.EvalDone},
		{"A1=[a?0:(a+(A (a-1)))];", "(A 7)", impl.EvalLarge},
		{"A2=[a?b:((A (a-1)) (b+b))];", "((A 2) 1)", impl.EvalDone},
		{"A2=[a?b:((A (a-1)) (b+b))];", "((A 3) 1)", impl.EvalLarge},
		{"A1=<a,(A (a+1))>;B2=[a?~b:((B (a-1)) ^b)];", "((B 3) (A 5))", impl.EvalDone},
		{"A3=(a (b c));B1=(a+a);C2=((A a) (a b));", "((C B) 3)", impl.EvalDone},
		{"A2=(a (a b));B1=(a+a);", "((A (A B)) 3)", impl.EvalDone},
		{"A0=<1,A>;", "~^^^A", impl.EvalDone},
		{"A1=(B a);B1=(A a);", "(A 1)", impl.EvalFuel},
		{"A2=((b a) a);B2=(a-b);C0=(A 5);", "(C B)", impl.EvalDone},
	}
	for _, c := range cases {
		p, e := mustProgram(t, c.program), mustExpr(t, c.text)
		if code := checkMeaning(t, p, e, impl.MaxFuel); code != c.code {
			t.Errorf("EvalName(%s, %s) has the code %d", c.program, c.text, code)
		}
		for fuel := range 30 {
			checkMeaning(t, p, e, fuel)
		}
	}
}

func TestRandomTraces(t *testing.T) {
	r := rand.New(rand.NewSource(7))
	for range 2000 {
		p := randomProgram(r)
		e := randomClosed(r, p)
		fuel := r.Intn(30)
		trace, code := impl.TraceName(p, e, fuel)
		last := trace[len(trace)-1]
		value, evalCode, steps := impl.EvalName(p, e, fuel)
		if !equal(trace[0], e) || evalCode != code || steps != len(trace)-1 || steps > fuel || code == impl.EvalDone && !equal(value, last) {
			t.Fatalf("TraceName(%s, %s, %d) = %s, %d", impl.FormatProgram(p), impl.FormatExpr(e), fuel, traceText(trace), code)
		}
		for i, x := range trace[:steps] {
			next, code := impl.StepName(p, x)
			if impl.IsHead(p, x) || code != impl.EvalDone || !equal(next, trace[i+1]) || !impl.ExprValid(next, 0, len(p)) {
				t.Fatalf("StepName(%s, %s) = %s, %d", impl.FormatProgram(p), impl.FormatExpr(x), impl.FormatExpr(next), code)
			}
		}
		next, stepCode := impl.StepName(p, last)
		if impl.IsHead(p, last) != (code == impl.EvalDone) || code == impl.EvalDone && !equal(next, last) || code == impl.EvalFuel && steps != fuel || code > impl.EvalFuel && stepCode != code {
			t.Fatalf("the trace of %s ends with %s and %d", impl.FormatExpr(e), impl.FormatExpr(last), code)
		}
	}
}
