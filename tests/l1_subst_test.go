package tests

import (
	"math/rand"
	"strings"
	"testing"

	"loop.example/graphreducer/impl"
)

// checkSubst checks SubstExpr by texts; the result is "" if there is none.
func checkSubst(t *testing.T, e string, want string, args ...string) {
	t.Helper()
	var list []impl.Expr
	for _, a := range args {
		list = append(list, mustExpr(t, a))
	}
	got, ok := impl.SubstExpr(mustExpr(t, e), list)
	if ok != (want != "") || !ok && !isZero(got) || impl.FormatExpr(got) != want {
		t.Errorf("SubstExpr(%s, %v) = %v, %v", e, args, got, ok)
	}
}

func TestSubst(t *testing.T) {
	checkSubst(t, "(a+a)", "((A 2)+(A 2))", "(A 2)")
	checkSubst(t, "(a+b)", "(1+2)", "1", "2")
	checkSubst(t, "(a+b)", "(b+a)", "b", "a")
	checkSubst(t, "(a b)", "((a b) (a a))", "(a b)", "(a a)")
	checkSubst(t, "a", "d", "d")
	checkSubst(t, "d", "4", "1", "2", "3", "4")
	checkSubst(t, "5", "5")
	checkSubst(t, "F", "F")
	checkSubst(t, "A", "A", "1", "2")
	checkSubst(t, "[a?~b:^<c,d>]", "[1?~B:^<(a 2),[0?b:c]>]", "1", "B", "(a 2)", "[0?b:c]")
	checkSubst(t, "((A-0) (1 a))", "((A-0) (1 B))", "B")
}

func TestSubstRefused(t *testing.T) {
	checkSubst(t, "a", "")
	checkSubst(t, "(a+b)", "", "1")
	checkSubst(t, "d", "", "1", "2", "3")
	checkSubst(t, "a", "", "1", "2", "3", "4", "5")
	checkSubst(t, "1", "", "1", "2", "3", "4", "5")
	for _, wrong := range []impl.Expr{{}, number(1000), variable(4), global(6), chain(16, number(1)), fullTree(61)} {
		for _, list := range [][]impl.Expr{{wrong}, {number(1), wrong}, {wrong, number(1), number(2), number(3)}} {
			if got, ok := impl.SubstExpr(number(1), list); ok || !isZero(got) {
				t.Errorf("SubstExpr with the argument %v = %v, %v", wrong, got, ok)
			}
		}
		if got, ok := impl.SubstExpr(wrong, []impl.Expr{number(1), number(2), number(3), number(4)}); ok || !isZero(got) {
			t.Errorf("SubstExpr(%v) = %v, %v", wrong, got, ok)
		}
	}
}

func TestSubstTooLarge(t *testing.T) {
	// The results have 1 + size + size nodes, and 2 + many nodes above each other.
	for size := 25; size < 35; size++ {
		arg := fullTree(size - 1 + size%2)
		if size%2 == 0 {
			arg = chain(1, arg)
		}
		got, ok := impl.SubstExpr(mustExpr(t, "(a a)"), []impl.Expr{arg})
		checkLarge(t, got, ok, node(impl.ExpApp, 0, arg, arg))
		got, ok = impl.SubstExpr(mustExpr(t, "~(a a)"), []impl.Expr{arg})
		checkLarge(t, got, ok, chain(1, node(impl.ExpApp, 0, arg, arg)))
	}
	for many := 8; many < 16; many++ {
		got, ok := impl.SubstExpr(chain(6, variable(0)), []impl.Expr{chain(many, number(1))})
		checkLarge(t, got, ok, chain(6+many, number(1)))
	}
	got, ok := impl.SubstExpr(fullOf(variable(0)), []impl.Expr{fullTree(59)})
	if ok || !isZero(got) {
		t.Errorf("SubstExpr = %v, %v", got, ok)
	}
}

// fullOf returns an expression of many nodes with e at each end.
func fullOf(e impl.Expr) impl.Expr {
	for range 4 {
		e = node(impl.ExpAdd, 0, e, e)
	}
	return e
}

func checkLarge(t *testing.T, got impl.Expr, ok bool, want impl.Expr) {
	t.Helper()
	size, depth := measure(want)
	fits := size <= impl.MaxNodes && depth <= impl.MaxDepth
	if ok != fits || ok && !equal(got, want) || !ok && !isZero(got) {
		t.Errorf("SubstExpr to %d nodes and a depth of %d = %v, %v", size, depth, got, ok)
	}
}

// replaced returns the text in which the texts of args stand for the variables.
func replaced(text string, args []impl.Expr) string {
	var b strings.Builder
	for _, c := range []byte(text) {
		if 'a' <= c && c <= 'z' {
			b.WriteString(impl.FormatExpr(args[c-'a']))
		} else {
			b.WriteByte(c)
		}
	}
	return b.String()
}

func TestRandomSubst(t *testing.T) {
	r := rand.New(rand.NewSource(4))
	done, refused := 0, 0
	for range 20000 {
		var args []impl.Expr
		for range r.Intn(allVars + 1) {
			args = append(args, randomExpr(r, allVars, allDefs, 1+r.Intn(4)))
		}
		e := randomExpr(r, len(args), allDefs, 1+r.Intn(4))
		want := replaced(impl.FormatExpr(e), args)
		parsed, fits := impl.ParseExpr(want)
		got, ok := impl.SubstExpr(e, args)
		if ok != fits || ok && (impl.FormatExpr(got) != want || !equal(got, parsed)) || !ok && !isZero(got) {
			t.Fatalf("SubstExpr(%s) to %s = %v, %v", impl.FormatExpr(e), want, got, ok)
		}
		if ok {
			done++
		} else {
			refused++
		}
	}
	if done == 0 || refused == 0 {
		t.Errorf("%d results and %d that are too large", done, refused)
	}
}

// spoil overwrites all nodes of an expression.
func spoil(e impl.Expr) {
	for i := range e.Kids {
		spoil(e.Kids[i])
		e.Kids[i] = number(77)
	}
}

func TestSubstSharesNoMemory(t *testing.T) {
	e, arg := mustExpr(t, "<(a 1),(a (2 3))>"), mustExpr(t, "(A <b,4>)")
	args := []impl.Expr{arg, mustExpr(t, "~1")}
	before := [...]impl.Expr{clone(e), clone(arg), clone(args[1])}
	got, ok := impl.SubstExpr(e, args)
	again, _ := impl.SubstExpr(e, args)
	if !ok || !equal(e, before[0]) || !equal(args[0], before[1]) || !equal(args[1], before[2]) {
		t.Fatal("SubstExpr changes its arguments")
	}
	spoil(got.Kids[0].Kids[0])
	const want = "<((A <b,4>) 1),((A <b,4>) (2 3))>"
	if impl.FormatExpr(got.Kids[1]) != "((A <b,4>) (2 3))" {
		t.Error("two parts of a result share memory")
	}
	spoil(e)
	spoil(arg)
	if impl.FormatExpr(again) != want {
		t.Error("a result shares memory with an argument or another result")
	}
	spoil(again)
	if impl.FormatExpr(args[1]) != "~1" {
		t.Error("SubstExpr keeps an argument")
	}
}

func TestSubstSharesNoUnusedMemory(t *testing.T) {
	room := make([]impl.Expr, 2)
	arg := impl.Expr{Op: impl.ExpNum, N: 1, Kids: room[:0]}
	e := impl.Expr{Op: impl.ExpPair, Kids: []impl.Expr{variable(0), {Op: impl.ExpNum, N: 2, Kids: room[1:1]}}}
	got, ok := impl.SubstExpr(e, []impl.Expr{arg})
	if !ok || impl.FormatExpr(got) != "<1,2>" {
		t.Fatalf("SubstExpr = %v, %v", got, ok)
	}
	for _, k := range got.Kids {
		_ = append(k.Kids, number(7))
	}
	if !isZero(room[0]) || !isZero(room[1]) {
		t.Error("a result shares unused memory with an argument")
	}
}

func TestSizeAndVars(t *testing.T) {
	e := mustExpr(t, "[a?~<1,b>:((A (a-1)) ^b)]")
	if impl.SizeOf(e) != 14 || impl.SizeOf(impl.Expr{}) != 1 || impl.SizeOf(number(5)) != 1 {
		t.Error("SizeOf is wrong")
	}
	wants := [][]int{{}, {2}, {2, 2}, {2, 2, 0}, {2, 2, 0, 0}}
	for vars := -3; vars < 8; vars++ {
		var want []int
		if 0 <= vars && vars < len(wants) {
			want = wants[vars]
		}
		checkInts(t, impl.VarsUsed(e, vars), want)
	}
	checkInts(t, impl.VarsUsed(mustExpr(t, "((1 A) <2,2>)"), 4), []int{0, 0, 0, 0})
	checkInts(t, impl.VarsUsed(mustExpr(t, "(d [d?d:c])"), 4), []int{0, 0, 1, 3})
}

func checkInts(t *testing.T, got []int, want []int) {
	t.Helper()
	if len(got) != len(want) {
		t.Errorf("there is %v, not %v", got, want)
		return
	}
	for i := range got {
		if got[i] != want[i] {
			t.Errorf("there is %v, not %v", got, want)
			return
		}
	}
}

func TestSizeAndVarsOfInvalid(t *testing.T) {
	e := node(33, 2, variable(1), variable(-1), variable(9), node(impl.ExpVar, 0, variable(1), number(5)), fullTree(61), node(impl.ExpGlobal, 1), node(0, 0))
	if impl.SizeOf(e) != 70 {
		t.Errorf("SizeOf = %d", impl.SizeOf(e))
	}
	checkInts(t, impl.VarsUsed(e, 4), []int{1, 2, 0, 0})
}

func TestRandomVars(t *testing.T) {
	r := rand.New(rand.NewSource(5))
	for range 2000 {
		e := randomExpr(r, allVars, allDefs, 4)
		text := impl.FormatExpr(e)
		if size, _ := measure(e); size > impl.MaxNodes {
			continue
		}
		for vars := range allVars + 1 {
			var want []int
			for v := range vars {
				want = append(want, strings.Count(text, string(rune('a'+v))))
			}
			checkInts(t, impl.VarsUsed(e, vars), want)
		}
	}
}

func TestHugeExprs(t *testing.T) {
	deep, other := chain(1000000, variable(1)), chain(1000000, variable(1))
	if impl.SizeOf(deep) != 1000001 || !impl.ExprSame(deep, other) || impl.ExprSame(deep, chain(1, other)) {
		t.Error("SizeOf or ExprSame of a deep expression")
	}
	checkInts(t, impl.VarsUsed(deep, 2), []int{0, 1})
	wide := node(impl.ExpIf, 0, make([]impl.Expr, 1000000)...)
	if impl.SizeOf(wide) != 1000001 || !impl.ExprSame(wide, wide) {
		t.Error("SizeOf or ExprSame of a wide expression")
	}
	shared := doubled(61, variable(0))
	if impl.SizeOf(shared) != 1<<62-1 || !impl.ExprSame(shared, doubled(61, variable(0))) || impl.ExprSame(shared, doubled(61, variable(1))) {
		t.Error("SizeOf or ExprSame of an expression that shares its parts")
	}
	checkInts(t, impl.VarsUsed(shared, 2), []int{1 << 61, 0})
	for _, e := range []impl.Expr{deep, wide, shared} {
		checkRefused(t, e)
	}
}

// checkRefused checks that an expression that is too large is not valid anywhere.
func checkRefused(t *testing.T, e impl.Expr) {
	t.Helper()
	if impl.ExprValid(e, allVars, allDefs) || impl.FormatExpr(e) != "" || impl.ProgramValid([]impl.Def{{Arity: 4, Body: e}}) {
		t.Error("an expression that is too large is valid")
	}
	if got, ok := impl.SubstExpr(e, []impl.Expr{number(1)}); ok || !isZero(got) {
		t.Errorf("SubstExpr of an expression that is too large = %v", got)
	}
	if got, ok := impl.SubstExpr(variable(0), []impl.Expr{e}); ok || !isZero(got) {
		t.Errorf("SubstExpr to an expression that is too large = %v", got)
	}
}

func TestExprsWithoutEnd(t *testing.T) {
	one, other := endless(impl.ExpFst), endless(impl.ExpSnd)
	if !impl.ExprSame(one, one) || !impl.ExprSame(one, endless(impl.ExpFst)) || !impl.ExprSame(one, chain(3, one)) || impl.ExprSame(one, other) {
		t.Error("ExprSame of expressions that contain themselves")
	}
	if impl.SizeOf(one) != 0 || impl.SizeOf(doubled(70, number(1))) != 0 {
		t.Error("SizeOf returns a number where there is none")
	}
	checkInts(t, impl.VarsUsed(node(impl.ExpApp, 0, variable(0), one), 2), []int{0, 0})
	checkRefused(t, one)
	checkRefused(t, doubled(70, variable(0)))
}
