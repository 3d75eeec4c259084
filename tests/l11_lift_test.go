package tests

import (
	"math/rand"
	"slices"
	"strings"
	"testing"

	"loop.example/graphreducer/impl"
)

// liftCases are terms with their programs, in which a semicolon stands for a
// newline, and their expressions.
var liftCases = []struct{ term, program, expr string }{
	{"7", "", "7"},
	{"(1+2)", "", "(1+2)"},
	{"(3 4)", "", "(3 4)"},
	{"((1 2)+(3 (4+5)))", "", "((1 2)+(3 (4+5)))"},
	{"((..(#0+#1) 1) 2)", "A1=(B a);B2=(b+a);", "((A 1) 2)"},
	{".#0", "A1=a;", "A"},
	// An abstraction that does not use its variable has an argument for it.
	{".5", "A1=5;", "A"},
	{"(.3 (1 2))", "A1=3;", "(A (1 2))"},
	{"..1", "A1=B;B1=1;", "A"},
	{"..#1", "A1=(B a);B2=a;", "A"},
	{"..#0", "A1=B;B1=a;", "A"},
	{".....9", "A1=B;B1=C;C1=D;D1=E;E1=9;", "A"},
	// Variables of several abstractions outside come from inside to outside.
	{"...#2", "A1=(B a);B2=(C a);C2=a;", "A"},
	{"...#1", "A1=B;B1=(C a);C2=a;", "A"},
	{"...(#0+(#1+#2))", "A1=(B a);B2=((C b) a);C3=(c+(a+b));", "A"},
	{"...((#2 #1) #0)", "A1=(B a);B2=((C b) a);C3=((b a) c);", "A"},
	{"...(#2+#0)", "A1=(B a);B2=(C a);C2=(a+b);", "A"},
	{"....(#0+(#1+(#2+#3)))", "A1=(B a);B2=((C b) a);C3=(((D c) a) b);D4=(d+(a+(b+c)));", "A"},
	{"....#3", "A1=(B a);B2=(C a);C2=(D a);D2=a;", "A"},
	{".....#4", "A1=(B a);B2=(C a);C2=(D a);D2=(E a);E2=a;", "A"},
	{"....(#3 .#3)", "A1=(B a);B2=((C b) a);C3=((D a) b);D3=(b (E a));E2=a;", "A"},
	{"...(.#1 .#3)", "A1=(B a);B2=(C a);C2=((D b) (E a));D2=a;E2=a;", "A"},
	// A variable that is used twice is one argument.
	{"..(#1+#1)", "A1=(B a);B2=(a+a);", "A"},
	{".(#0 .(#0 #1))", "A1=(a (B a));B2=(b a);", "A"},
	// Functions are numbered by the beginnings of their abstractions.
	{"(.#0 .(#0+1))", "A1=a;B1=(a+1);", "(A B)"},
	{"((.1 .2) (.3 .4))", "A1=1;B1=2;C1=3;D1=4;", "((A B) (C D))"},
	{"(.(.1+.2)+.3)", "A1=(B+C);B1=1;C1=2;D1=3;", "(A+D)"},
	{"(..#1+.#0)", "A1=(B a);B2=a;C1=a;", "(A+C)"},
	{".(.#0 .#1)", "A1=(B (C a));B1=a;C2=a;", "A"},
	// An abstraction as an argument and as a function.
	{"(.(#0 (#0 2)) .(#0+1))", "A1=(a (a 2));B1=(a+1);", "(A B)"},
	{"(.(#0 #0) .(#0 #0))", "A1=(a a);B1=(a a);", "(A B)"},
	{"(.(.(.(#0+(#1+#2)) 1) 2) 3)", "A1=((B a) 2);B2=(((C b) a) 1);C3=(c+(a+b));", "(A 3)"},
	{".(#0 ..(#2 (#1 #0)))", "A1=(a (B a));B2=((C b) a);C3=(b (a c));", "A"},
}

func TestLiftTerm(t *testing.T) {
	for _, c := range liftCases {
		p, e, ok := impl.LiftTerm(mustTerm(t, c.term))
		text := strings.ReplaceAll(impl.FormatProgram(p), "\n", ";")
		if !ok || text != c.program || impl.FormatExpr(e) != c.expr {
			t.Errorf("LiftTerm(%s) = %s, %s, %v", c.term, text, impl.FormatExpr(e), ok)
		}
		checkLift(t, mustTerm(t, c.term))
	}
}

// unlifter makes a term of an expression again. The functions of the program
// must come in the order of their abstractions.
type unlifter struct {
	t    *testing.T
	p    []impl.Def
	next int
}

// term returns the term for an expression in some abstractions, where places
// has the number from outside of the abstraction that binds each variable.
func (u *unlifter) term(e impl.Expr, places []int, lams int) impl.Term {
	u.t.Helper()
	switch e.Op {
	case impl.ExpVar:
		return bound(lams - 1 - places[e.N])
	case impl.ExpNum:
		return numeral(e.N)
	case impl.ExpAdd:
		first := u.term(e.Kids[0], places, lams)
		return addTerms(first, u.term(e.Kids[1], places, lams))
	}
	f, args := impl.Arguments(e)
	var x impl.Term
	if f.Op == impl.ExpGlobal {
		x, args = u.abstraction(f.N, args, places, lams)
	} else {
		x = u.term(f, places, lams)
	}
	for _, a := range args {
		x = applyTerm(x, u.term(a, places, lams))
	}
	return x
}

// abstraction returns the term for a function with its first arguments, and the
// arguments that are left.
func (u *unlifter) abstraction(f int, args []impl.Expr, places []int, lams int) (impl.Term, []impl.Expr) {
	u.t.Helper()
	if f != u.next || f >= len(u.p) || u.p[f].Arity < 1 || len(args) < u.p[f].Arity-1 {
		u.t.Fatalf("the function %d with %d arguments comes in the place of %d in %s", f, len(args), u.next, impl.FormatProgram(u.p))
	}
	u.next++
	outside := u.p[f].Arity - 1
	var inside, vars []int
	for _, a := range args[:outside] {
		if a.Op != impl.ExpVar {
			u.t.Fatalf("the function %d is applied to %s in the place of a variable", f, impl.FormatExpr(a))
		}
		inside = append(inside, places[a.N])
		vars = append(vars, lams-1-places[a.N])
	}
	x := lam(u.term(u.p[f].Body, append(inside, lams), lams+1))
	if want := freeBy(x); !slices.Equal(vars, want) {
		u.t.Fatalf("the function %d of %s has the variables %v, not %v", f, impl.FormatProgram(u.p), vars, want)
	}
	return x, args[outside:]
}

// mostArgs returns the greatest number of arguments that a function for an
// abstraction in a term has.
func mostArgs(x impl.Term) int {
	most := 0
	if x.Op == impl.TermLam {
		most = len(freeBy(x)) + 1
	}
	for _, k := range x.Kids {
		most = max(most, mostArgs(k))
	}
	return most
}

// checkLift checks LiftTerm for a valid term, by making a term of the result
// again, and returns whether there is one: by the limits of terms, too many
// arguments are the only reason for none.
func checkLift(t *testing.T, x impl.Term) bool {
	t.Helper()
	p, e, ok := impl.LiftTerm(x)
	if want := mostArgs(x) <= impl.MaxArity; ok != want || !ok && (len(p) != 0 || !isZero(e)) {
		t.Fatalf("LiftTerm(%s) = %v, %v, %v", termTextBy(x), p, e, ok)
	}
	if !ok {
		return false
	}
	if !impl.ProgramValid(p) || !impl.ExprValid(e, 0, len(p)) || len(p) != sizeOfTerm(x).lams {
		t.Fatalf("LiftTerm(%s) = %v, %v", termTextBy(x), p, e)
	}
	u := &unlifter{t: t, p: p}
	if back := u.term(e, nil, 0); !equalTerms(back, x) || u.next != len(p) {
		t.Fatalf("LiftTerm(%s) = %s, %s, which is that of %s", termTextBy(x), impl.FormatProgram(p), impl.FormatExpr(e), termTextBy(back))
	}
	return true
}

func TestLiftTermRefused(t *testing.T) {
	for text, want := range map[string]bool{
		".....(#0+(#1+(#2+(#3+#4))))": false, ".....((#4+#3)+(#2+#1))": false, "....(#0+(#1+(#2+#3)))": true, ".....(#0+(#1+(#2+#3)))": true, ".....(#0+(#4+(#2+#3)))": true,
		".....(#0+(#1+(#3+#4)))": true, "....((#0+#1)+(#2+.(#4 #0)))": true, "....((#0+#1)+.(#1+(#2+(#3+#4))))": false, "....(1 .(#1+(#2+(#3+#4))))": false,
		"(.1 ....(#3+(#2+#1)))": true, "(3+.....(#4+(#3+(#2+(#1+5)))))": false, "....(#1 .(#1+(#2+#4)))": true, "....(#0 .(#1+(#2+(#1+#2))))": true,
	} {
		x := mustTerm(t, text)
		p, e, ok := impl.LiftTerm(x)
		if ok != want || !ok && (len(p) != 0 || !isZero(e)) {
			t.Errorf("LiftTerm(%s) = %v, %v, %v", text, p, e, ok)
		}
		checkLift(t, x)
	}
}

// treeOfVars returns a term of the given number of variables, with a small depth.
func treeOfVars(r *rand.Rand, lams int, many int) impl.Term {
	if many == 1 {
		return bound(r.Intn(lams))
	}
	first := treeOfVars(r, lams, many/2)
	return termNode(impl.TermApp+r.Intn(2), 0, first, treeOfVars(r, lams, many-many/2))
}

func TestRandomLifts(t *testing.T) {
	r := rand.New(rand.NewSource(114))
	lifted, refused := 0, 0
	var args [impl.MaxArity + 1]int
	for i := range 30000 {
		x := randomClosedTerm(r)
		if i%3 == 0 {
			// Many abstractions in each other, whose variables are used in the last one.
			lams := 2 + r.Intn(4)
			x = lamsOver(lams, treeOfVars(r, lams, 1+r.Intn(9)))
		}
		if checkLift(t, x) {
			lifted++
			args[mostArgs(x)]++
		} else {
			refused++
		}
	}
	if lifted < 20000 || refused < 200 || slices.Min(args[:]) < 300 {
		t.Errorf("%d terms are lifted, and %d are not; the functions have %v arguments", lifted, refused, args)
	}
}

func TestLiftsOfLimits(t *testing.T) {
	// The body of a function is deeper than that of its abstraction, which has room in the limits.
	x := addTerms(addTerms(bound(0), bound(1)), addTerms(bound(2), bound(0)))
	x = lamsOver(3, lam(x))
	for sizeOfTerm(x).depth < termDepth {
		x = applyTerm(numeral(1), x)
	}
	if !checkLift(t, x) {
		t.Errorf("%s is not lifted", termTextBy(x))
	}
	for many := 14; many < 21; many++ {
		for lams := range 6 {
			x := lamsOver(lams, sumTree(many, numeral(5)))
			if termValidBy(x) && !checkLift(t, x) {
				t.Errorf("%s is not lifted", termTextBy(x))
			}
		}
	}
}

func TestLiftsShareNoMemory(t *testing.T) {
	const text, program, expr = "((...(#0+(#1+#2)) 1) 2)", "A1=(B a)\nB2=((C b) a)\nC3=(c+(a+b))\n", "((A 1) 2)"
	x := mustTerm(t, text)
	p, e, _ := impl.LiftTerm(x)
	q, f, _ := impl.LiftTerm(x)
	for _, part := range append(p, impl.Def{Body: e}) {
		checkPartsApart(t, part.Body)
	}
	spoil(p[2].Body)
	if impl.FormatExpr(p[1].Body) != "((C b) a)" || impl.FormatExpr(p[0].Body) != "(B a)" || impl.FormatExpr(e) != expr {
		t.Error("two parts of a result share memory")
	}
	spoil(p[0].Body)
	spoil(p[1].Body)
	spoil(e)
	p = p[:cap(p)]
	for i := range p {
		p[i] = impl.Def{Arity: 4, Body: number(5)}
	}
	if impl.FormatProgram(q) != program || impl.FormatExpr(f) != expr || impl.FormatTerm(x) != text {
		t.Error("a result shares memory with an argument or another result")
	}
	spoilTerm(x)
	if impl.FormatProgram(q) != program || impl.FormatExpr(f) != expr {
		t.Error("LiftTerm keeps its argument")
	}
}

// checkPartsApart checks that no part of an expression has unused memory that
// another one has.
func checkPartsApart(t *testing.T, e impl.Expr) {
	t.Helper()
	text := impl.FormatExpr(e)
	for _, x := range nodesInOrder(e) {
		_ = append(x.Kids, number(7), number(7), number(7))
	}
	if impl.FormatExpr(e) != text {
		t.Error("two parts of a result share unused memory")
	}
}
