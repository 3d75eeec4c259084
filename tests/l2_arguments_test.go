package tests

import (
	"testing"

	"loop.example/graphreducer/impl"
)

// checkArguments checks Arguments by comparing with expressions that are small.
func checkArguments(t *testing.T, e impl.Expr, f impl.Expr, args ...impl.Expr) {
	t.Helper()
	gotF, gotArgs := impl.Arguments(e)
	same := equal(gotF, f) && len(gotArgs) == len(args)
	for i := 0; same && i < len(args); i++ {
		same = equal(gotArgs[i], args[i])
	}
	if !same {
		t.Errorf("Arguments(%v) = %v, %v", e, gotF, gotArgs)
	}
}

func TestArguments(t *testing.T) {
	cases := map[string][]string{
		"A":                       {"A"},
		"a":                       {"a"},
		"5":                       {"5"},
		"(A 1)":                   {"A", "1"},
		"((A 1) 2)":               {"A", "1", "2"},
		"((((b 1) 2) 3) 4)":       {"b", "1", "2", "3", "4"},
		"(A (B 1))":               {"A", "(B 1)"},
		"((A (B 1)) (C 2))":       {"A", "(B 1)", "(C 2)"},
		"(5 6)":                   {"5", "6"},
		"((<(A 1),2> 3) 4)":       {"<(A 1),2>", "3", "4"},
		"(~(A 1) 2)":              {"~(A 1)", "2"},
		"([(A 1)?(B 2):(C 3)] 4)": {"[(A 1)?(B 2):(C 3)]", "4"},
		"<A,1>":                   {"<A,1>"},
		"((A 1)+2)":               {"((A 1)+2)"},
		"((A 1)-2)":               {"((A 1)-2)"},
		"^(A 1)":                  {"^(A 1)"},
	}
	for text, want := range cases {
		var args []impl.Expr
		for _, x := range want[1:] {
			args = append(args, mustExpr(t, x))
		}
		checkArguments(t, mustExpr(t, text), mustExpr(t, want[0]), args...)
	}
}

func TestArgumentsOfInvalid(t *testing.T) {
	one, two, wrong := number(1), number(2), node(77, -5, number(-1), variable(99))
	checkArguments(t, impl.Expr{}, impl.Expr{})
	checkArguments(t, node(impl.ExpApp, 3, wrong, wrong), wrong, wrong)
	checkArguments(t, node(impl.ExpApp, 3, node(impl.ExpApp, -4, one, wrong), two), one, wrong, two)
	checkArguments(t, node(impl.ExpApp, 0, impl.Expr{}, impl.Expr{}), impl.Expr{}, impl.Expr{})
	for _, kids := range [][]impl.Expr{nil, {one}, {one, two, wrong}, {one, one, one, one}} {
		short := node(impl.ExpApp, 6, kids...)
		checkArguments(t, short, short)
		checkArguments(t, node(impl.ExpApp, 0, node(impl.ExpApp, 0, short, two), wrong), short, two, wrong)
	}
	for _, w := range wrongNodes() {
		if w.Op != impl.ExpApp || len(w.Kids) != 2 {
			checkArguments(t, w, w)
		}
		checkArguments(t, node(impl.ExpApp, 0, node(impl.ExpFst, 0, w), w), node(impl.ExpFst, 0, w), w)
	}
	// More arguments than an expression that is valid can have.
	many, list := number(0), []impl.Expr{}
	for i := range 3000 {
		many = node(impl.ExpApp, 0, many, number(i))
		list = append(list, number(i))
	}
	checkArguments(t, many, number(0), list...)
}

func TestArgumentsOfHuge(t *testing.T) {
	const many = 1000000
	deep := variable(1)
	for range many {
		deep = node(impl.ExpApp, 0, deep, number(5))
	}
	f, args := impl.Arguments(deep)
	if len(args) != many || !equal(f, variable(1)) || !equal(args[0], number(5)) || !equal(args[many-1], number(5)) {
		t.Errorf("Arguments has %v and %d arguments", f, len(args))
	}
	f, args = impl.Arguments(node(impl.ExpApp, 0, global(2), chain(many, number(5))))
	if len(args) != 1 || !equal(f, global(2)) || !impl.ExprSame(args[0], chain(many, number(5))) {
		t.Errorf("Arguments has %v and %d arguments", f, len(args))
	}
	// Written out, these would have more nodes than there is memory.
	for _, levels := range []int{19, 20, 21, 40, 61, 62, 63, 64, 100} {
		f, args = impl.Arguments(doubled(levels, number(5)))
		if len(args) != levels || !equal(f, number(5)) || !impl.ExprSame(args[levels-1], doubled(levels-1, number(5))) {
			t.Errorf("Arguments has %v and %d arguments, not %d", f, len(args), levels)
		}
	}
}

func TestArgumentsWithoutEnd(t *testing.T) {
	loop := make([]impl.Expr, 2)
	loop[0], loop[1] = impl.Expr{Op: impl.ExpApp, Kids: loop}, number(1)
	for _, e := range []impl.Expr{loop[0], {Op: impl.ExpApp, N: 2, Kids: loop}, node(impl.ExpApp, 0, loop[0], number(3))} {
		if f, args := impl.Arguments(e); !isZero(f) || len(args) != 0 {
			t.Errorf("Arguments of a function without end has %d arguments", len(args))
		}
	}
	// The function has an end here, but not the argument, nor what is not unwound.
	one, other := endless(impl.ExpFst), endless(impl.ExpSnd)
	f, args := impl.Arguments(node(impl.ExpApp, 0, node(impl.ExpApp, 0, number(4), one), other))
	if len(args) != 2 || !equal(f, number(4)) || !impl.ExprSame(args[0], one) || !impl.ExprSame(args[1], other) {
		t.Errorf("Arguments has %d arguments", len(args))
	}
	f, args = impl.Arguments(node(impl.ExpApp, 0, one, other))
	if len(args) != 1 || !impl.ExprSame(f, one) || !impl.ExprSame(args[0], other) {
		t.Errorf("Arguments has %d arguments", len(args))
	}
	args[0].Kids[0].Op = 0
	if other.Kids[0].Op != impl.ExpSnd {
		t.Error("Arguments shares memory with its argument")
	}
}

func TestArgumentsShareNoMemory(t *testing.T) {
	part := mustExpr(t, "(A <b,4>)")
	e := node(impl.ExpApp, 0, node(impl.ExpApp, 0, node(impl.ExpPair, 0, part, part), part), node(impl.ExpFst, 0, part))
	before := clone(e)
	f, args := impl.Arguments(e)
	other, more := impl.Arguments(e)
	if !equal(e, before) {
		t.Fatal("Arguments changes its argument")
	}
	spoil(f.Kids[0])
	_ = append(args[:1:1], number(7))
	if impl.FormatExpr(f.Kids[1]) != "(A <b,4>)" || impl.FormatExpr(args[0]) != "(A <b,4>)" {
		t.Error("parts of the function share memory with others")
	}
	spoil(args[0])
	if impl.FormatExpr(args[1]) != "~(A <b,4>)" || !equal(e, before) {
		t.Error("an argument shares memory with others")
	}
	spoil(e)
	if impl.FormatExpr(other) != "<(A <b,4>),(A <b,4>)>" || impl.FormatExpr(more[0]) != "(A <b,4>)" || impl.FormatExpr(more[1]) != "~(A <b,4>)" {
		t.Error("Arguments shares memory with its argument or another result")
	}
	room := make([]impl.Expr, 1)
	_, args = impl.Arguments(node(impl.ExpApp, 0, number(1), impl.Expr{Op: impl.ExpNum, Kids: room[:0]}))
	_ = append(args[0].Kids, number(7))
	if !isZero(room[0]) {
		t.Error("Arguments shares unused memory with its argument")
	}
}

func TestArgumentsOfOverlappingParts(t *testing.T) {
	// The same memory, with fewer operands in one place, beside a part without end.
	room := []impl.Expr{number(1), number(2), number(3)}
	e := node(impl.ExpApp, 0, node(impl.ExpApp, 0, node(impl.ExpApp, 0, number(4), endless(impl.ExpFst)), node(33, 0, room...)), node(34, 0, room[:1]...))
	_, args := impl.Arguments(e)
	if len(args) != 3 || !equal(args[1], node(33, 0, number(1), number(2), number(3))) || !equal(args[2], node(34, 0, number(1))) {
		t.Errorf("Arguments has %d arguments", len(args))
	}
}
