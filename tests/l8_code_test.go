package tests

import (
	"math/rand"
	"slices"
	"testing"

	"loop.example/graphreducer/impl"
)

// codeCases are expressions with their code, and how many elements its stack has at most.
var codeCases = []struct {
	expr, code string
	stack      int
}{
	{"7", "num7", 1},
	{"0", "num0", 1},
	{"999", "num999", 1},
	{"a", "arg0", 1},
	{"d", "arg3", 1},
	{"A", "fun0", 1},
	{"F", "fun5", 1},
	{"(A a)", "fun0 arg0 app", 2},
	{"<a,1>", "arg0 num1 pair", 2},
	{"~a", "arg0 fst", 1},
	{"^a", "arg0 snd", 1},
	{"(1+b)", "num1 arg1 add", 2},
	{"(1-b)", "num1 arg1 sub", 2},
	{"[a?b:c]", "arg0 arg1 arg2 if", 3},
	{"(A (a+1))", "fun0 arg0 num1 add app", 3},
	{"(1-(2-3))", "num1 num2 num3 sub sub", 3},
	{"((1-2)-3)", "num1 num2 sub num3 sub", 2},
	{"^~<2,1>", "num2 num1 pair fst snd", 2},
	{"((B a) b)", "fun1 arg0 app arg1 app", 2},
	// What is used twice is there twice.
	{"(a+a)", "arg0 arg0 add", 2},
	{"<<a,a>,a>", "arg0 arg0 pair arg0 pair", 2},
	{"((1+2)+(1+2))", "num1 num2 add num1 num2 add add", 3},
	// Instructions without operands of their own kind in between.
	{"[[1?2:3]?4:[5?6:7]]", "num1 num2 num3 if num4 num5 num6 num7 if if", 5},
	{"[a?b:((A (a-1)) (b+b))]", "arg0 arg1 fun0 arg0 num1 sub app arg1 arg1 add app if", 5},
}

func TestCompileExpr(t *testing.T) {
	for _, c := range codeCases {
		e, want := mustExpr(t, c.expr), codeOf(t, c.code)
		list, ok := impl.CompileExpr(e)
		if !ok || !slices.Equal(list, want) {
			t.Errorf("CompileExpr(%s) = %v, %v", c.expr, list, ok)
		}
		if got, ok := impl.DecompileCode(want); !ok || !equal(got, e) {
			t.Errorf("DecompileCode(%s) = %v, %v", c.code, got, ok)
		}
		if got := impl.StackOf(want); got != c.stack {
			t.Errorf("StackOf(%s) = %d, not %d", c.code, got, c.stack)
		}
		if got := impl.FormatCode(want); got != c.code {
			t.Errorf("FormatCode = %q, not %q", got, c.code)
		}
		if got, ok := impl.ParseCode(c.code); !ok || !slices.Equal(got, want) {
			t.Errorf("ParseCode(%q) = %v, %v", c.code, got, ok)
		}
		checkCode(t, want)
	}
}

// TestSmallCode checks all short lists of some instructions, valid and not.
func TestSmallCode(t *testing.T) {
	some := []impl.Code{
		instruction(impl.ExpVar, 1), instruction(impl.ExpNum, 5), instruction(impl.ExpGlobal, 0), instruction(impl.ExpApp, 0), instruction(impl.ExpSub, 0),
		instruction(impl.ExpSnd, 0), instruction(impl.ExpIf, 0), instruction(impl.ExpNum, 1000), instruction(impl.ExpAdd, 1), instruction(impl.ExpInd, 0), {},
	}
	g := graphOf(t, "num 3;fun 0;ind #0;")
	var places []int
	for at := range some {
		places = append(places, at)
	}
	valid := 0
	listsOf(5, places, func(picks []int) {
		var list []impl.Code
		for _, at := range picks {
			list = append(list, some[at])
		}
		if checkCode(t, list) {
			valid++
		}
		checkExec(t, g, list, []int{0, 2}, 1)
	})
	if valid < 500 {
		t.Errorf("%d short lists are code", valid)
	}
}

func TestRandomCode(t *testing.T) {
	r := rand.New(rand.NewSource(81))
	valid, wrong := 0, 0
	for i := range 8000 {
		list := codeBy(randomExpr(r, allVars, allDefs, 1+i%7))
		checkCode(t, list)
		for range 3 {
			if checkCode(t, changedCode(r, list)) {
				valid++
			} else {
				wrong++
			}
		}
	}
	if valid < 1000 || wrong < 1000 {
		t.Errorf("%d changed lists are code, and %d are not", valid, wrong)
	}
}

// changedCode returns a list with an instruction that is new, another one or missing.
func changedCode(r *rand.Rand, list []impl.Code) []impl.Code {
	at := r.Intn(len(list))
	c := instruction(r.Intn(14)-1, 0)
	if impl.ExpVar <= c.Op && c.Op <= impl.ExpGlobal || r.Intn(20) == 0 {
		c.N = r.Intn(8) - 1
	}
	switch r.Intn(3) {
	case 0:
		return slices.Insert(slices.Clone(list), at, c)
	case 1:
		return slices.Delete(slices.Clone(list), at, at+1)
	}
	return slices.Replace(slices.Clone(list), at, at+1, c)
}

// wrongCode are lists that are no code of any expression, by their text.
var wrongCode = []string{
	"",
	// Elements are left.
	"num1 num2", "arg0 arg0", "fun0 fun0 fun0", "num1 num2 fst", "num1 num2 num3 add", "num1 num2 add num3", "num1 num2 num3 num4 if", "num1 fst num2 snd",
	// An instruction has too few operands.
	"app", "pair", "fst", "snd", "add", "sub", "if", "num1 app", "num1 pair", "num1 add", "num1 sub", "num1 if", "num1 num2 if", "fst num1", "add num1 num2",
	"num1 add num2", "num1 num2 add add", "num1 num2 add sub num3", "app num1 num2 num3 app app", "num1 fst fst app", "num1 num2 pair app num3",
	// An N is wrong.
	"num-1", "num1000", "fun-1", "fun6", "arg-1", "arg4", "num1 fst1", "num1 num2 add-1", "num1 num2 app5", "num1 num2 pair1", "num1 num2 sub2", "num1 num2 num3 if1",
	"num1 num1000 add", "num1 num2 app1 fst", "num9223372036854775807", "num1 snd9223372036854775807",
	// There is no such instruction.
	"ind", "ind0", "num1 ind", "num1 fst ind", "num1 ind fst",
}

func TestWrongCode(t *testing.T) {
	g := graphOf(t, "num 3;fun 0;")
	check := func(list []impl.Code) {
		t.Helper()
		checkNoCode(t, list)
		checkNoExec(t, g, list, []int{0, 1, 0, 1}, allDefs)
		checkNoExec(t, nil, list, nil, 0)
	}
	for _, text := range wrongCode {
		check(codeOf(t, text))
	}
	check(nil)
	check([]impl.Code{})
	for _, op := range []int{0, -1, -2, 11, 12, 13, 1 << 62, -1 << 63} {
		for n := range 3 {
			check([]impl.Code{instruction(op, n)})
			check([]impl.Code{instruction(impl.ExpNum, 1), instruction(op, n)})
			check([]impl.Code{instruction(op, n), instruction(impl.ExpFst, 0)})
			check([]impl.Code{instruction(impl.ExpNum, 1), instruction(impl.ExpNum, 1), instruction(op, n), instruction(impl.ExpAdd, 0)})
		}
	}
}

func TestCodeOfLimits(t *testing.T) {
	for _, size := range []int{57, 58, 59, 60, 61, 62, 63} {
		if ok := checkCode(t, codeBy(sized(size))); ok != (size <= impl.MaxNodes) {
			t.Errorf("the code of %d nodes is valid: %v", size, ok)
		}
	}
	for many := 13; many < 19; many++ {
		for _, e := range []impl.Expr{chain(many, number(1)), node(impl.ExpPair, 0, variable(0), chain(many-1, number(1)))} {
			if ok := checkCode(t, codeBy(e)); ok != (many < impl.MaxDepth) {
				t.Errorf("the code of a depth of %d is valid: %v", many+1, ok)
			}
		}
	}
	// As many instructions can have a depth that is too great.
	checkNoCode(t, codeBy(chain(59, number(1))))
	checkNoCode(t, slices.Repeat(codeOf(t, "num1"), impl.MaxNodes))
}

// longCode returns lists that are much too long.
func longCode() [][]impl.Code {
	const many = 1000000
	one := []impl.Code{instruction(impl.ExpNum, 1)}
	ones := slices.Repeat(one, many)
	return [][]impl.Code{
		ones,
		append(slices.Clone(one), slices.Repeat([]impl.Code{instruction(impl.ExpFst, 0)}, many)...),
		append(slices.Clone(ones), slices.Repeat([]impl.Code{instruction(impl.ExpAdd, 0)}, many-1)...),
		slices.Repeat([]impl.Code{instruction(impl.ExpAdd, 0)}, many),
		make([]impl.Code, many),
	}
}

func TestLongCode(t *testing.T) {
	stacks := []int{1000000, 1, 1000000, 0, 0}
	for i, list := range longCode() {
		if e, ok := impl.DecompileCode(list); ok || !isZero(e) || impl.CodeValid(list, allVars, allDefs) || impl.FormatCode(list) != "" {
			t.Errorf("the long list %d is code", i)
		}
		if h, root, ok := impl.ExecCode(nil, list, nil, 0); ok || len(h) != 0 || root != 0 {
			t.Errorf("the long list %d is executed", i)
		}
		if got := impl.StackOf(list); got != stacks[i] {
			t.Errorf("StackOf the long list %d is %d", i, got)
		}
	}
}

func TestCompileExprRefused(t *testing.T) {
	for _, e := range append(tooLargeExprs(), doubled(70, variable(0)), variable(-1), variable(5)) {
		for _, wrong := range []impl.Expr{e, node(impl.ExpFst, 0, e), node(impl.ExpIf, 0, number(1), e, number(2))} {
			if list, ok := impl.CompileExpr(wrong); ok || len(list) != 0 {
				t.Errorf("CompileExpr of an expression that is not valid = %v, %v", list, ok)
			}
		}
	}
}

func TestCodeValid(t *testing.T) {
	for _, c := range []struct {
		text       string
		vars, defs int
	}{
		{"num1", 0, 0}, {"arg0", 1, 0}, {"arg3", 4, 0}, {"fun0", 0, 1}, {"fun5", 0, 6}, {"arg1 fun2 app", 2, 3}, {"arg0 arg2 fun0 if fst", 3, 1},
		{"fun1 arg1 app arg0 app", 2, 2}, {"num1 num2 add", 0, 0}, {"arg3 fun5 pair", 4, 6},
	} {
		list := codeOf(t, c.text)
		for vars := -2; vars < 8; vars++ {
			for defs := -2; defs < 10; defs++ {
				want := c.vars <= vars && vars <= impl.MaxArity && c.defs <= defs && defs <= impl.MaxDefs
				if impl.CodeValid(list, vars, defs) != want {
					t.Errorf("CodeValid(%s, %d, %d) is %v", c.text, vars, defs, !want)
				}
			}
		}
		for _, wrong := range []int{1 << 62, -1 << 63} {
			if impl.CodeValid(list, wrong, allDefs) || impl.CodeValid(list, allVars, wrong) {
				t.Errorf("CodeValid(%s) with %d is true", c.text, wrong)
			}
		}
	}
}

func TestStackOf(t *testing.T) {
	for text, want := range map[string]int{
		"": 0, "num1": 1, "num1 num2": 2, "num1 num2 num3": 3, "num1 num2 add": 2, "num1 num2 add num3": 2, "num1 num2 add num3 num4": 3, "num1 num2 num3 if": 3,
		"num1 fst fst snd": 1, "arg0 arg0 arg0 arg0 app app app": 4, "num1 num2 pair num3 num4 pair pair": 3,
		// There are too few elements, also behind a greater stack, and also if there are enough later.
		"app": 0, "fst": 0, "if": 0, "num1 add": 0, "num1 num2 if": 0, "num1 num2 num3 if app": 0, "num1 num2 num3 add add add": 0, "fst num1 num2": 0, "num1 if num2 num3": 0,
		// There is no such kind of expression.
		"ind": 0, "ind0": 0, "num1 ind": 0, "num1 num2 ind num3": 0, "num1 num2 num3 ind": 0,
		// The N makes no difference.
		"num-1": 1, "num5000 arg77 fun-8": 3, "num1 num2 app7": 2, "num1 fst-1": 1, "num1 num1 num1 if9": 3,
	} {
		if got := impl.StackOf(codeOf(t, text)); got != want {
			t.Errorf("StackOf(%s) = %d, not %d", text, got, want)
		}
	}
	for _, op := range []int{0, -1, 11, 12, 1 << 62, -1 << 63} {
		wrong := instruction(op, 0)
		ones := codeOf(t, "num1 num1 num1 num1")
		for at := range len(ones) + 1 {
			if got := impl.StackOf(slices.Insert(slices.Clone(ones), at, wrong)); got != 0 {
				t.Errorf("StackOf with the kind %d = %d", op, got)
			}
		}
	}
}

func TestCodeSharesNoMemory(t *testing.T) {
	const text, code = "<(a+b),[~1?^2:(A 3)]>", "arg0 arg1 add num1 fst num2 snd fun0 num3 app if pair"
	e := mustExpr(t, text)
	list, _ := impl.CompileExpr(e)
	again, _ := impl.CompileExpr(e)
	spoilCode(list)
	if impl.FormatCode(again) != code || impl.FormatExpr(e) != text {
		t.Error("two results of CompileExpr share memory")
	}
	spoil(e)
	if impl.FormatCode(again) != code {
		t.Error("a result of CompileExpr shares memory with its argument")
	}

	room := append(codeOf(t, code), instruction(33, 1))
	given := room[:len(room)-1]
	first, _ := impl.DecompileCode(given)
	second, _ := impl.DecompileCode(given)
	third, _ := impl.ParseCode(code)
	fourth, _ := impl.ParseCode(code)
	spoil(first)
	spoilCode(third)
	if impl.FormatExpr(second) != text || impl.FormatCode(fourth) != code {
		t.Error("two results of DecompileCode or ParseCode share memory")
	}
	if impl.FormatCode(given) != code || room[len(given)] != instruction(33, 1) {
		t.Error("DecompileCode changes its argument, or memory behind it")
	}
	spoilCode(given)
	if impl.FormatExpr(second) != text {
		t.Error("a result of DecompileCode shares memory with its argument")
	}
}

// TestDecompiledPartsShareNoMemory checks that no part of an expression has
// unused memory that another one has.
func TestDecompiledPartsShareNoMemory(t *testing.T) {
	const text, code = "<(a+b),[~1?^2:(A 3)]>", "arg0 arg1 add num1 fst num2 snd fun0 num3 app if pair"
	e, _ := impl.DecompileCode(codeOf(t, code))
	var parts func(e impl.Expr)
	parts = func(x impl.Expr) {
		_ = append(x.Kids, number(7), number(7), number(7))
		if impl.FormatExpr(e) != text {
			t.Fatal("two parts of a result share unused memory")
		}
		for _, k := range x.Kids {
			parts(k)
		}
	}
	parts(e)
	spoil(e.Kids[0])
	if impl.FormatExpr(e.Kids[1]) != "[~1?^2:(A 3)]" {
		t.Error("two parts of a result share memory")
	}
}
