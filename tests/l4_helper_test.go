package tests

import (
	"math/rand"
	"testing"

	"loop.example/graphreducer/impl"
)

// spineBy finds the spine of a cell by recursion, with the applications that were seen before.
func spineBy(g []impl.Cell, at int, seen map[int]bool) (int, []int, bool) {
	to, ok := impl.FollowInd(g, at)
	if !ok || seen[to] {
		return 0, nil, false
	}
	if g[to].Op != impl.ExpApp {
		return to, nil, true
	}
	seen[to] = true
	f, rest, ok := spineBy(g, g[to].Kids[0], seen)
	if !ok {
		return 0, nil, false
	}
	return f, append([]int{to}, rest...), true
}

// valueBy reports whether a cell stands for a value.
func valueBy(p []impl.Def, g []impl.Cell, at int) bool {
	f, cells, ok := spineBy(g, at, map[int]bool{})
	if !ok {
		return false
	}
	isData := g[f].Op == impl.ExpNum || g[f].Op == impl.ExpPair
	return isData && len(cells) == 0 || g[f].Op == impl.ExpGlobal && len(cells) < p[g[f].N].Arity
}

// standsForKind reports whether a cell stands for one of some kind.
func standsForKind(g []impl.Cell, at int, op int) bool {
	to, ok := impl.FollowInd(g, at)
	return ok && g[to].Op == op
}

// redexBy finds the redex of a cell that stands for no value, with the operands
// to which it went before; it is false if the cell is stuck.
func redexBy(p []impl.Def, g []impl.Cell, at int, seen map[int]bool) (int, bool) {
	f, cells, ok := spineBy(g, at, map[int]bool{})
	if !ok || seen[at] {
		return 0, false
	}
	seen[at] = true
	c := g[f]
	kind := impl.ExpNum
	switch c.Op {
	case impl.ExpNum, impl.ExpPair:
		return 0, false
	case impl.ExpGlobal:
		chain := append(cells, f)
		return chain[len(cells)-p[c.N].Arity], true
	case impl.ExpFst, impl.ExpSnd:
		kind = impl.ExpPair
	}
	if !valueBy(p, g, c.Kids[0]) {
		return redexBy(p, g, c.Kids[0], seen)
	}
	if !standsForKind(g, c.Kids[0], kind) {
		return 0, false
	}
	if c.Op != impl.ExpAdd && c.Op != impl.ExpSub {
		return f, true
	}
	if !valueBy(p, g, c.Kids[1]) {
		return redexBy(p, g, c.Kids[1], seen)
	}
	return f, standsForKind(g, c.Kids[1], kind)
}

// changeBy makes the step of a redex, and reports whether there is room for it.
func changeBy(p []impl.Def, g []impl.Cell, redex int) ([]impl.Cell, bool) {
	c := g[redex]
	if c.Op == impl.ExpApp || c.Op == impl.ExpGlobal {
		f, cells, _ := spineBy(g, redex, map[int]bool{})
		var args []int
		for _, at := range cells {
			args = append([]int{g[at].Kids[1]}, args...)
		}
		h, to, ok := impl.AddExpr(g, p[g[f].N].Body, args, len(p))
		if !ok {
			return g, false
		}
		h[redex] = cell(impl.ExpInd, 0, to)
		return h, true
	}
	h := cloneGraph(g)
	var operands []impl.Cell
	for _, k := range c.Kids {
		to, _ := impl.FollowInd(g, k)
		operands = append(operands, g[to])
	}
	switch c.Op {
	case impl.ExpFst:
		h[redex] = cell(impl.ExpInd, 0, operands[0].Kids[0])
	case impl.ExpSnd:
		h[redex] = cell(impl.ExpInd, 0, operands[0].Kids[1])
	case impl.ExpIf:
		h[redex] = cell(impl.ExpInd, 0, c.Kids[1+min(operands[0].N, 1)])
	case impl.ExpAdd:
		h[redex] = cell(impl.ExpNum, (operands[0].N+operands[1].N)%1000)
	case impl.ExpSub:
		h[redex] = cell(impl.ExpNum, (operands[0].N+1000-operands[1].N)%1000)
	}
	return h, true
}

// stepBy returns the graph after a step from a cell, the code, and the redex.
func stepBy(p []impl.Def, g []impl.Cell, root int) ([]impl.Cell, int, int) {
	if valueBy(p, g, root) {
		return g, impl.EvalDone, root
	}
	redex, ok := redexBy(p, g, root, map[int]bool{})
	if !ok {
		return g, impl.EvalStuck, 0
	}
	h, ok := changeBy(p, g, redex)
	if !ok {
		return g, impl.EvalLarge, redex
	}
	return h, impl.EvalDone, redex
}

// evalBy returns the graph after the steps from a cell, the code, and their number.
func evalBy(p []impl.Def, g []impl.Cell, root int, fuel int) ([]impl.Cell, int, int) {
	for steps := 0; ; steps++ {
		if valueBy(p, g, root) {
			return g, impl.EvalDone, steps
		}
		if steps == fuel {
			return g, impl.EvalFuel, steps
		}
		h, code, _ := stepBy(p, g, root)
		if code != impl.EvalDone {
			return g, code, steps
		}
		g = h
	}
}

// padded returns a graph with numbers behind it, so that it has many cells.
func padded(g []impl.Cell, many int) []impl.Cell {
	for len(g) < many {
		g = append(g, cell(impl.ExpNum, 0))
	}
	return g
}

// mixedGraph returns a random graph for a program, with sums, choices and calls
// of numbers and pairs more often than randomGraph has them. Some have little
// room left for more cells.
func mixedGraph(r *rand.Rand, p []impl.Def) []impl.Cell {
	g := randomGraph(r, 1+r.Intn(15), len(p), 1+r.Intn(30))
	for range r.Intn(6) {
		g = append(g, cell(impl.ExpNum, r.Intn(3)), cell(impl.ExpPair, 0, r.Intn(len(g)), len(g)))
	}
	for range r.Intn(12) {
		op := impl.ExpApp + r.Intn(impl.ExpInd-impl.ExpApp)
		var kids []int
		for range kidsOf[op] {
			kids = append(kids, len(g)-1-r.Intn(min(len(g), 6)))
		}
		if op == impl.ExpApp && len(p) > 0 && r.Intn(2) == 0 {
			g = append(g, cell(impl.ExpGlobal, r.Intn(len(p))))
			kids[0] = len(g) - 1
		}
		g = append(g, cell(op, 0, kids...))
	}
	if r.Intn(4) == 0 {
		g = padded(g, impl.MaxCells-r.Intn(8))
	}
	return g
}

// thunk is an expression with what its variables are, and its value as soon as it is known.
type thunk struct {
	e     impl.Expr
	env   []*thunk
	known bool
	value result
}

// result is a number, a pair of thunks, or a function with the thunks that it has as arguments.
type result struct {
	op   int
	n    int
	args []*thunk
}

// sharer finds values by need, without graphs: it keeps the values of arguments
// and of the parts of pairs. It counts the cells that a graph would have.
type sharer struct {
	p     []impl.Def
	fuel  int
	steps int
	cells int
}

func (m *sharer) force(t *thunk) (result, int) {
	if t.known {
		return t.value, impl.EvalDone
	}
	x, code := m.value(t.e, t.env)
	if code == impl.EvalDone {
		t.known, t.value = true, x
	}
	return x, code
}

// step counts a step that adds some cells, if it can be made.
func (m *sharer) step(cells int) int {
	switch {
	case m.steps == m.fuel:
		return impl.EvalFuel
	case m.cells+cells > impl.MaxCells:
		return impl.EvalLarge
	}
	m.steps++
	m.cells += cells
	return impl.EvalDone
}

// stuck returns the code of an evaluation that has no step, if there is fuel for trying one.
func (m *sharer) stuck() int {
	if m.steps == m.fuel {
		return impl.EvalFuel
	}
	return impl.EvalStuck
}

func (m *sharer) value(e impl.Expr, env []*thunk) (result, int) {
	switch e.Op {
	case impl.ExpVar:
		return m.force(env[e.N])
	case impl.ExpNum:
		return result{op: e.Op, n: e.N}, impl.EvalDone
	case impl.ExpGlobal:
		return m.call(result{op: e.Op, n: e.N})
	case impl.ExpPair:
		return result{op: e.Op, args: []*thunk{{e: e.Kids[0], env: env}, {e: e.Kids[1], env: env}}}, impl.EvalDone
	case impl.ExpAdd, impl.ExpSub:
		return m.sum(e, env)
	}
	first, code := m.value(e.Kids[0], env)
	if code != impl.EvalDone {
		return result{}, code
	}
	if e.Op == impl.ExpApp && first.op == impl.ExpGlobal {
		args := append([]*thunk{}, first.args...)
		return m.call(result{op: first.op, n: first.n, args: append(args, &thunk{e: e.Kids[1], env: env})})
	}
	if e.Op == impl.ExpIf && first.op == impl.ExpNum {
		return m.after(m.step(0), &thunk{e: e.Kids[1+min(first.n, 1)], env: env})
	}
	if e.Op == impl.ExpFst && first.op == impl.ExpPair {
		return m.after(m.step(0), first.args[0])
	}
	if e.Op == impl.ExpSnd && first.op == impl.ExpPair {
		return m.after(m.step(0), first.args[1])
	}
	return result{}, m.stuck()
}

// after goes on with a thunk, if the step before it was made.
func (m *sharer) after(code int, next *thunk) (result, int) {
	if code != impl.EvalDone {
		return result{}, code
	}
	return m.force(next)
}

// call applies a function, if it has enough arguments.
func (m *sharer) call(f result) (result, int) {
	d := m.p[f.n]
	if len(f.args) < d.Arity {
		return f, impl.EvalDone
	}
	cells := impl.SizeOf(d.Body)
	for _, used := range impl.VarsUsed(d.Body, d.Arity) {
		cells -= used
	}
	return m.after(m.step(cells), &thunk{e: d.Body, env: f.args})
}

func (m *sharer) sum(e impl.Expr, env []*thunk) (result, int) {
	var numbers []int
	for _, k := range e.Kids {
		x, code := m.value(k, env)
		if code != impl.EvalDone {
			return result{}, code
		}
		if x.op != impl.ExpNum {
			return result{}, m.stuck()
		}
		numbers = append(numbers, x.n)
	}
	n := numbers[0] + numbers[1]
	if e.Op == impl.ExpSub {
		n = numbers[0] - numbers[1]
	}
	return result{op: impl.ExpNum, n: (n%1000 + 1000) % 1000}, m.step(0)
}

// numberBy returns what NumberNeed returns, as the sharer finds it.
func numberBy(p []impl.Def, e impl.Expr, fuel int) (int, int, int) {
	m := sharer{p: p, fuel: fuel, cells: impl.SizeOf(e)}
	x, code := m.value(e, nil)
	if code != impl.EvalDone {
		return 0, code, m.steps
	}
	if x.op != impl.ExpNum {
		return 0, impl.EvalStuck, m.steps
	}
	return x.n, code, m.steps
}

// numbersBy returns what ForceNumbers returns, as the sharer finds it.
func numbersBy(p []impl.Def, e impl.Expr, many int, fuel int) ([]int, int) {
	m := sharer{p: p, fuel: fuel, cells: impl.SizeOf(e)}
	at := &thunk{e: e}
	if _, code := m.force(at); code != impl.EvalDone {
		return nil, code
	}
	var list []int
	for len(list) < many {
		x, code := m.force(at)
		if code == impl.EvalDone && x.op != impl.ExpPair {
			code = impl.EvalStuck
		}
		if code != impl.EvalDone {
			return list, code
		}
		first, code := m.force(x.args[0])
		if code == impl.EvalDone && first.op != impl.ExpNum {
			code = impl.EvalStuck
		}
		if code != impl.EvalDone {
			return list, code
		}
		list = append(list, first.n)
		at = x.args[1]
	}
	return list, impl.EvalDone
}

// wrongPrograms returns programs that are not valid.
func wrongPrograms() [][]impl.Def {
	one := number(1)
	list := [][]impl.Def{
		{{Arity: -1, Body: one}}, {{Arity: 5, Body: one}}, {{Arity: 1, Body: variable(1)}}, {{Body: variable(0)}}, {{Body: global(1)}}, {{}},
		{{Body: one}, {Body: one}, {Body: one}, {Body: one}, {Body: one}, {Body: one}, {Body: one}},
	}
	for _, w := range tooLargeExprs() {
		list = append(list, []impl.Def{{Body: w}}, []impl.Def{{Body: one}, {Arity: 4, Body: w}})
	}
	return list
}

// invalidEvaluations calls what with the arguments of many evaluations that are not valid.
func invalidEvaluations(t *testing.T, what func(p []impl.Def, e impl.Expr, fuel int)) {
	t.Helper()
	p := mustProgram(t, "A2=a;B0=1;")
	for _, fuel := range []int{-1, 0, 10, impl.MaxFuel, impl.MaxFuel + 1} {
		for _, text := range []string{"a", "(a 1)", "<a,1>", "<1,b>", "[0?1:a]", "C", "F", "(A C)", "<1,C>", "((A 1) C)"} {
			what(p, mustExpr(t, text), fuel)
		}
		for _, wrong := range tooLargeExprs() {
			what(p, wrong, fuel)
			what(p, node(impl.ExpPair, 0, number(1), wrong), fuel)
		}
		for _, wrong := range wrongPrograms() {
			what(wrong, number(1), fuel)
			what(wrong, mustExpr(t, "<1,<2,A>>"), fuel)
		}
		what(nil, global(0), fuel)
	}
	for _, fuel := range []int{-1, -2, -1 << 63, 301, 302, 1<<63 - 1} {
		for _, text := range []string{"1", "<1,2>", "A", "((A 1) 2)", "(1 2)"} {
			what(p, mustExpr(t, text), fuel)
		}
	}
}

// checkGraph checks the graph that a function returns.
func checkGraph(t *testing.T, what string, got []impl.Cell, want []impl.Cell) {
	t.Helper()
	if !equalGraphs(got, want) {
		t.Errorf("%s has the graph\n%snot\n%s", what, impl.FormatGraph(got), impl.FormatGraph(want))
	}
}
