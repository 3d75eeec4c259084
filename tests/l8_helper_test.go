package tests

import (
	"slices"
	"strconv"
	"strings"
	"testing"

	"loop.example/graphreducer/impl"
)

// instruction builds an instruction without checking it.
func instruction(op int, n int) impl.Code { return impl.Code{Op: op, N: n} }

// codeOf returns the code of a text. It checks no more than the words.
func codeOf(t *testing.T, text string) []impl.Code {
	t.Helper()
	var list []impl.Code
	for word := range strings.FieldsSeq(text) {
		letters := strings.TrimRight(word, "-0123456789")
		op := opOfWord[letters]
		if letters == "arg" {
			op = impl.ExpVar
		}
		n := 0
		if letters != word {
			n, _ = strconv.Atoi(strings.TrimPrefix(word, letters))
		}
		if op == 0 {
			t.Fatalf("there is no instruction %q", word)
		}
		list = append(list, instruction(op, n))
	}
	return list
}

// removedBy returns how many elements an instruction of a kind removes from the
// stack; -1 if there is no such kind of expression.
func removedBy(op int) int {
	if op < impl.ExpVar || op > impl.ExpIf {
		return -1
	}
	return kidsOf[op]
}

// exprAtEnd returns the expression whose code is at the end of a list, which it
// reads backwards, and what is in front of this code.
func exprAtEnd(list []impl.Code) (impl.Expr, []impl.Code, bool) {
	if len(list) == 0 {
		return impl.Expr{}, nil, false
	}
	last, rest := list[len(list)-1], list[:len(list)-1]
	many := removedBy(last.Op)
	if many < 0 {
		return impl.Expr{}, nil, false
	}
	e := node(last.Op, last.N)
	for range many {
		kid, before, ok := exprAtEnd(rest)
		if !ok {
			return impl.Expr{}, nil, false
		}
		e.Kids = slices.Insert(e.Kids, 0, kid)
		rest = before
	}
	return e, rest, true
}

// exprOfCode returns the expression whose code is a list, valid or not.
func exprOfCode(list []impl.Code) (impl.Expr, bool) {
	e, rest, ok := exprAtEnd(list)
	if !ok || len(rest) != 0 {
		return impl.Expr{}, false
	}
	return e, true
}

// codeBy returns the code of an expression by its nodes.
func codeBy(e impl.Expr) []impl.Code {
	var list []impl.Code
	for _, x := range nodesInOrder(e) {
		list = append(list, instruction(x.Op, x.N))
	}
	return list
}

// stackBy returns what StackOf returns, by a stack that is drawn.
func stackBy(list []impl.Code) int {
	stack, most := "", 0
	for _, c := range list {
		many := removedBy(c.Op)
		if many < 0 || !strings.HasSuffix(stack, strings.Repeat("#", many)) {
			return 0
		}
		stack = stack[many:] + "#"
		most = max(most, len(stack))
	}
	return most
}

// textBy returns the text of code that is valid.
func textBy(list []impl.Code) string {
	words := [...]string{"", "arg", "num", "fun", "app", "pair", "fst", "snd", "add", "sub", "if"}
	var text []string
	for _, c := range list {
		word := words[c.Op]
		if c.Op <= impl.ExpGlobal {
			word += strconv.Itoa(c.N)
		}
		text = append(text, word)
	}
	return strings.Join(text, " ")
}

// checkCode checks all functions of the chapter but ExecCode for any list, and
// returns whether it is code.
func checkCode(t *testing.T, list []impl.Code) bool {
	t.Helper()
	want, isCode := exprOfCode(list)
	if !isCode || !impl.ExprValid(want, allVars, allDefs) {
		checkNoCode(t, list)
		return false
	}
	if e, ok := impl.DecompileCode(list); !ok || !equal(e, want) {
		t.Fatalf("DecompileCode(%v) = %v, %v", list, e, ok)
	}
	if again, ok := impl.CompileExpr(want); !ok || !slices.Equal(again, list) {
		t.Fatalf("CompileExpr(%v) = %v, %v, not %v", want, again, ok, list)
	}
	text := textBy(list)
	if got := impl.FormatCode(list); got != text {
		t.Fatalf("FormatCode(%v) = %q, not %q", list, got, text)
	}
	if again, ok := impl.ParseCode(text); !ok || !slices.Equal(again, list) {
		t.Fatalf("ParseCode(%q) = %v, %v", text, again, ok)
	}
	for vars := -1; vars < 7; vars++ {
		for defs := -1; defs < 9; defs++ {
			if ok := impl.CodeValid(list, vars, defs); ok != impl.ExprValid(want, vars, defs) {
				t.Fatalf("CodeValid(%v, %d, %d) is %v", list, vars, defs, ok)
			}
		}
	}
	if got := impl.StackOf(list); got != stackBy(list) {
		t.Fatalf("StackOf(%v) = %d", list, got)
	}
	return true
}

// checkNoCode checks that a list is not taken as code of a valid expression.
func checkNoCode(t *testing.T, list []impl.Code) {
	t.Helper()
	if e, ok := impl.DecompileCode(list); ok || !isZero(e) {
		t.Fatalf("DecompileCode(%v) = %v, %v", list, e, ok)
	}
	if text := impl.FormatCode(list); text != "" {
		t.Fatalf("FormatCode(%v) = %q", list, text)
	}
	for vars := -1; vars < 6; vars++ {
		if impl.CodeValid(list, vars, allDefs) || impl.CodeValid(list, allVars, vars) {
			t.Fatalf("CodeValid(%v) with %d is true", list, vars)
		}
	}
	if got := impl.StackOf(list); got != stackBy(list) {
		t.Fatalf("StackOf(%v) = %d, not %d", list, got, stackBy(list))
	}
}

// checkExec checks that code adds the cells of its expression to a graph, or
// that it is refused, and returns whether it is executed.
func checkExec(t *testing.T, g []impl.Cell, list []impl.Code, args []int, defs int) bool {
	t.Helper()
	e, isCode := exprOfCode(list)
	if !isCode {
		checkNoExec(t, g, list, args, defs)
		return false
	}
	want, wantRoot, wantOk := impl.AddExpr(g, e, args, defs)
	h, root, ok := impl.ExecCode(g, list, args, defs)
	if ok != wantOk || root != wantRoot || !equalGraphs(h, want) {
		t.Fatalf("ExecCode of %q with %v and %d functions to\n%sis %v, %d and\n%s", textBy(list), args, defs, impl.FormatGraph(g), ok, root, impl.FormatGraph(h))
	}
	return ok
}

// checkNoExec checks that code is not executed.
func checkNoExec(t *testing.T, g []impl.Cell, list []impl.Code, args []int, defs int) {
	t.Helper()
	if h, root, ok := impl.ExecCode(g, list, args, defs); ok || root != 0 || len(h) != 0 {
		t.Fatalf("ExecCode of %v to %d cells with %v and %d functions = %v, %d, %v", list, len(g), args, defs, h, root, ok)
	}
}

// spoilCode overwrites code, also behind its end.
func spoilCode(list []impl.Code) {
	list = list[:cap(list)]
	for i := range list {
		list[i] = instruction(-77, -77)
	}
}
