package tests

import (
	"math/rand"
	"slices"
	"strconv"
	"testing"

	"loop.example/graphreducer/impl"
)

// The limits of terms that have no name in the package.
const (
	termNodes = 40
	termDepth = 12
	termFuel  = 100
	bodyNodes = 400
)

// termNode builds a term without checking it.
func termNode(op int, n int, kids ...impl.Term) impl.Term {
	return impl.Term{Op: op, N: n, Kids: kids}
}

func bound(n int) impl.Term { return termNode(impl.TermVar, n) }

func numeral(n int) impl.Term { return termNode(impl.TermNum, n) }

func lam(body impl.Term) impl.Term { return termNode(impl.TermLam, 0, body) }

func applyTerm(f impl.Term, arg impl.Term) impl.Term { return termNode(impl.TermApp, 0, f, arg) }

func addTerms(a impl.Term, b impl.Term) impl.Term { return termNode(impl.TermAdd, 0, a, b) }

// mustTerm returns the term of a text that is valid.
func mustTerm(t *testing.T, text string) impl.Term {
	t.Helper()
	x, ok := impl.ParseTerm(text)
	if !ok {
		t.Fatalf("ParseTerm(%q) is false", text)
	}
	return x
}

// lamsOver puts abstractions around a term.
func lamsOver(many int, x impl.Term) impl.Term {
	for range many {
		x = lam(x)
	}
	return x
}

// sumTree returns a sum of the given number of terms, with a small depth.
func sumTree(many int, x impl.Term) impl.Term {
	if many == 1 {
		return x
	}
	return addTerms(sumTree(many/2, x), sumTree(many-many/2, x))
}

// termKids has the number of operands of each kind of term.
var termKids = [...]int{impl.TermLam: 1, impl.TermApp: 2, impl.TermAdd: 2}

// termSize is what limits are about.
type termSize struct{ nodes, depth, lams int }

func sizeOfTerm(x impl.Term) termSize {
	size := termSize{nodes: 1}
	if x.Op == impl.TermLam {
		size.lams = 1
	}
	for _, k := range x.Kids {
		s := sizeOfTerm(k)
		size.nodes += s.nodes
		size.depth = max(size.depth, s.depth)
		size.lams += s.lams
	}
	size.depth++
	return size
}

// isTermIn reports whether x is a term of any size in some abstractions.
func isTermIn(x impl.Term, lams int) bool {
	most := 0
	switch x.Op {
	case impl.TermVar:
		most = lams - 1
	case impl.TermNum:
		most = impl.MaxNumber
	case impl.TermLam:
		lams++
	case impl.TermApp, impl.TermAdd:
	default:
		return false
	}
	if x.N < 0 || x.N > most || len(x.Kids) != termKids[x.Op] {
		return false
	}
	for _, k := range x.Kids {
		if !isTermIn(k, lams) {
			return false
		}
	}
	return true
}

// termValidBy returns what TermValid returns for terms that are not too large.
func termValidBy(x impl.Term) bool {
	s := sizeOfTerm(x)
	return isTermIn(x, 0) && s.nodes <= termNodes && s.depth <= termDepth && s.lams <= impl.MaxLams
}

// termTextBy returns the text of a term of any size.
func termTextBy(x impl.Term) string {
	text := ""
	for i, k := range x.Kids {
		if i > 0 {
			text += [...]string{impl.TermApp: " ", impl.TermAdd: "+"}[x.Op]
		}
		text += termTextBy(k)
	}
	switch x.Op {
	case impl.TermVar:
		return "#" + strconv.Itoa(x.N)
	case impl.TermNum:
		return strconv.Itoa(x.N)
	case impl.TermLam:
		return "." + text
	}
	return "(" + text + ")"
}

func equalTerms(a impl.Term, b impl.Term) bool {
	return a.Op == b.Op && a.N == b.N && slices.EqualFunc(a.Kids, b.Kids, equalTerms)
}

func isNoTerm(x impl.Term) bool { return x.Op == 0 && x.N == 0 && len(x.Kids) == 0 }

func cloneTerm(x impl.Term) impl.Term {
	c := termNode(x.Op, x.N)
	for _, k := range x.Kids {
		c.Kids = append(c.Kids, cloneTerm(k))
	}
	return c
}

// spoilTerm overwrites all nodes of a term.
func spoilTerm(x impl.Term) {
	for i := range x.Kids {
		spoilTerm(x.Kids[i])
		x.Kids[i] = numeral(77)
	}
}

// hasFree reports whether the variable v outside of a term is in it.
func hasFree(x impl.Term, v int) bool {
	if x.Op == impl.TermVar && x.N == v {
		return true
	}
	if x.Op == impl.TermLam {
		v++
	}
	return slices.ContainsFunc(x.Kids, func(k impl.Term) bool { return hasFree(k, v) })
}

// freeBy returns what FreeVars returns for terms that are not too large.
func freeBy(x impl.Term) []int {
	var list []int
	for v := range impl.MaxLams {
		if hasFree(x, v) {
			list = append(list, v)
		}
	}
	return list
}

// randomTerm returns a term of at most the given depth in some abstractions.
func randomTerm(r *rand.Rand, lams int, depth int) impl.Term {
	op := 1 + r.Intn(5)
	if depth == 1 {
		op = 1 + r.Intn(2)
	}
	part := func() impl.Term { return randomTerm(r, lams, depth-1) }
	switch {
	case op == impl.TermVar && lams > 0:
		return bound(r.Intn(lams))
	case op <= impl.TermNum:
		return numeral(r.Intn(2) * r.Intn(impl.MaxNumber+1))
	case op == impl.TermLam:
		return lam(randomTerm(r, lams+1, depth-1))
	case op == impl.TermApp:
		return applyTerm(part(), part())
	}
	return addTerms(part(), part())
}

// sortParts returns the sorts of the argument and the result of a function,
// whose own sort is written as `>` and these two. The sort of numbers is `n`.
func sortParts(sort string) (string, string) {
	missing := 1
	for i, mark := range sort[1:] {
		if mark == '>' {
			missing++
		} else if missing--; missing == 0 {
			return sort[1 : i+2], sort[i+2:]
		}
	}
	return "", ""
}

// sortedTerm returns a term of a sort, so that no part of it is stuck, where
// sorts has those of the variables that are bound outside.
func sortedTerm(r *rand.Rand, sorts []string, sort string, depth int) impl.Term {
	var vars []int
	for i, s := range slices.Backward(sorts) {
		if s == sort {
			vars = append(vars, len(sorts)-1-i)
		}
	}
	if len(vars) > 0 && (depth <= 1 || r.Intn(2) == 0) {
		return bound(vars[r.Intn(len(vars))])
	}
	if sort == "n" && (depth <= 1 || r.Intn(8) == 0) {
		return numeral(r.Intn(3) * r.Intn(500))
	}
	if sort != "n" && (depth <= 1 || r.Intn(3) > 0) {
		arg, result := sortParts(sort)
		return lam(sortedTerm(r, append(slices.Clone(sorts), arg), result, depth-1))
	}
	if sort == "n" && r.Intn(3) == 0 {
		return addTerms(sortedTerm(r, sorts, sort, depth-1), sortedTerm(r, sorts, sort, depth-1))
	}
	arg := [...]string{"n", "n", ">nn", ">n>nn", ">>nnn"}[r.Intn(5)]
	return applyTerm(sortedTerm(r, sorts, ">"+arg+sort, depth-1), sortedTerm(r, sorts, arg, depth-1))
}

// randomNumberTerm returns a valid term that has a number, if fuel and room are left.
func randomNumberTerm(r *rand.Rand) impl.Term {
	for {
		if x := sortedTerm(r, nil, "n", 2+r.Intn(8)); termValidBy(x) {
			return x
		}
	}
}

// randomClosedTerm returns a valid term, which can be stuck.
func randomClosedTerm(r *rand.Rand) impl.Term {
	for {
		x := randomTerm(r, 0, 2+r.Intn(6))
		if r.Intn(2) == 0 {
			x = changedTerm(r, randomNumberTerm(r), 0)
		}
		if termValidBy(x) {
			return x
		}
	}
}

// changedTerm returns a term in which some parts are others.
func changedTerm(r *rand.Rand, x impl.Term, lams int) impl.Term {
	if r.Intn(12) == 0 {
		return randomTerm(r, lams, 1+r.Intn(3))
	}
	if x.Op == impl.TermLam {
		lams++
	}
	c := termNode(x.Op, x.N)
	for _, k := range x.Kids {
		c.Kids = append(c.Kids, changedTerm(r, k, lams))
	}
	return c
}

// closure is a term with what the variables outside of it are, the innermost one last.
type closure struct {
	x   impl.Term
	env []closure
}

// termMachine evaluates terms without replacing anything in them. It counts the
// calls and sums, and measures the largest body with an argument.
type termMachine struct {
	fuel    int
	calls   int
	sums    int
	largest int
}

func (m *termMachine) value(c closure) (closure, int) {
	switch c.x.Op {
	case impl.TermVar:
		return m.value(c.env[len(c.env)-1-c.x.N])
	case impl.TermAdd:
		return m.sum(c)
	case impl.TermApp:
		f, code := m.value(closure{c.x.Kids[0], c.env})
		if code != impl.EvalDone {
			return closure{}, code
		}
		return m.call(f, closure{c.x.Kids[1], c.env})
	}
	return c, impl.EvalDone
}

func (m *termMachine) call(f closure, arg closure) (closure, int) {
	if f.x.Op != impl.TermLam {
		return closure{}, impl.EvalStuck
	}
	if m.calls == m.fuel {
		return closure{}, impl.EvalFuel
	}
	m.calls++
	body := closure{f.x.Kids[0], append(slices.Clone(f.env), arg)}
	size := writtenSize(body, 0)
	m.largest = max(m.largest, size)
	if size > bodyNodes {
		return closure{}, impl.EvalLarge
	}
	return m.value(body)
}

func (m *termMachine) sum(c closure) (closure, int) {
	total := 0
	for _, k := range c.x.Kids {
		v, code := m.value(closure{k, c.env})
		if code == impl.EvalDone && v.x.Op != impl.TermNum {
			code = impl.EvalStuck
		}
		if code != impl.EvalDone {
			return closure{}, code
		}
		total += v.x.N
	}
	m.sums++
	return closure{x: numeral(total % 1000)}, impl.EvalDone
}

// writtenSize returns the nodes of a closure with all variables but the own
// ones of its abstractions replaced.
func writtenSize(c closure, own int) int {
	if c.x.Op == impl.TermVar && c.x.N >= own {
		return writtenSize(c.env[len(c.env)-1-(c.x.N-own)], 0)
	}
	if c.x.Op == impl.TermLam {
		own++
	}
	size := 1
	for _, k := range c.x.Kids {
		size += writtenSize(closure{k, c.env}, own)
	}
	return size
}

// number returns what NumberTerm returns for a valid term.
func (m *termMachine) number(x impl.Term) (int, int) {
	v, code := m.value(closure{x: x})
	if code == impl.EvalDone && v.x.Op != impl.TermNum {
		code = impl.EvalStuck
	}
	if code != impl.EvalDone {
		return 0, code
	}
	return v.x.N, code
}

// checkNumberTerm checks NumberTerm by the machine.
func checkNumberTerm(t *testing.T, x impl.Term, fuel int) (termMachine, int) {
	t.Helper()
	m := termMachine{fuel: fuel}
	want, wantCode := m.number(x)
	if n, code := impl.NumberTerm(x, fuel); n != want || code != wantCode {
		t.Fatalf("NumberTerm(%s, %d) = %d, %d, not %d, %d", termTextBy(x), fuel, n, code, want, wantCode)
	}
	return m, wantCode
}
