package tests

import (
	"math/rand"
	"testing"

	"loop.example/graphreducer/impl"
)

// node builds an expression without checking it.
func node(op int, n int, kids ...impl.Expr) impl.Expr {
	return impl.Expr{Op: op, N: n, Kids: kids}
}

func variable(n int) impl.Expr { return node(impl.ExpVar, n) }

func number(n int) impl.Expr { return node(impl.ExpNum, n) }

func global(n int) impl.Expr { return node(impl.ExpGlobal, n) }

// kidsOf has the number of operands of each kind.
var kidsOf = [...]int{impl.ExpApp: 2, impl.ExpPair: 2, impl.ExpFst: 1, impl.ExpSnd: 1, impl.ExpAdd: 2, impl.ExpSub: 2, impl.ExpIf: 3}

// mustExpr returns the expression of a text that is valid.
func mustExpr(t *testing.T, text string) impl.Expr {
	t.Helper()
	e, ok := impl.ParseExpr(text)
	if !ok {
		t.Fatalf("ParseExpr(%q) is false", text)
	}
	return e
}

// randomExpr returns an expression of at most the given depth.
func randomExpr(r *rand.Rand, vars int, defs int, depth int) impl.Expr {
	op := impl.ExpVar + r.Intn(impl.ExpIf)
	if depth == 1 {
		op = impl.ExpVar + r.Intn(3)
	}
	switch {
	case op == impl.ExpVar && vars > 0:
		return variable(r.Intn(vars))
	case op == impl.ExpGlobal && defs > 0:
		return global(r.Intn(defs))
	case op < impl.ExpApp:
		return number(r.Intn(impl.MaxNumber + 1))
	}
	e := node(op, 0)
	for range kidsOf[op] {
		e.Kids = append(e.Kids, randomExpr(r, vars, defs, depth-1))
	}
	return e
}

// measure returns the number of nodes and the depth of an expression.
func measure(e impl.Expr) (int, int) {
	size, depth := 1, 0
	for _, k := range e.Kids {
		s, d := measure(k)
		size += s
		depth = max(depth, d)
	}
	return size, depth + 1
}

// equal compares two expressions that are small.
func equal(a impl.Expr, b impl.Expr) bool {
	if a.Op != b.Op || a.N != b.N || len(a.Kids) != len(b.Kids) {
		return false
	}
	for i := range a.Kids {
		if !equal(a.Kids[i], b.Kids[i]) {
			return false
		}
	}
	return true
}

// isZero reports whether e is the zero value.
func isZero(e impl.Expr) bool { return e.Op == 0 && e.N == 0 && len(e.Kids) == 0 }

// fullTree returns an expression with the given number of nodes, which is odd, and a small depth.
func fullTree(size int) impl.Expr {
	if size == 1 {
		return number(1)
	}
	left := (size - 1) / 2
	if left%2 == 0 {
		left--
	}
	return node(impl.ExpAdd, 0, fullTree(left), fullTree(size-1-left))
}

// chain puts the given number of ExpFst in front of an expression.
func chain(many int, e impl.Expr) impl.Expr {
	for range many {
		e = node(impl.ExpFst, 0, e)
	}
	return e
}

// endless returns an expression that is its own operand.
func endless(op int) impl.Expr {
	kids := make([]impl.Expr, 1)
	kids[0] = impl.Expr{Op: op, Kids: kids}
	return kids[0]
}

// doubled returns an expression both of whose operands are the one with one
// level less, in shared memory.
func doubled(levels int, e impl.Expr) impl.Expr {
	for range levels {
		e = node(impl.ExpApp, 0, e, e)
	}
	return e
}
