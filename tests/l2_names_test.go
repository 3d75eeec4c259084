package tests

import (
	"strings"
	"testing"

	"loop.example/graphreducer/impl"
)

// mustProgram returns the program of a text with a semicolon behind each function.
func mustProgram(t *testing.T, text string) []impl.Def {
	t.Helper()
	p, ok := impl.ParseProgram(strings.ReplaceAll(text, ";", "\n"))
	if !ok {
		t.Fatalf("ParseProgram(%q) is false", text)
	}
	return p
}

const (
	isStuck = "stuck"
	isLarge = "large"
)

// endOf returns what a test writes for the result of a step.
func endOf(t *testing.T, e impl.Expr, code int) string {
	t.Helper()
	if code != impl.EvalDone && !isZero(e) {
		t.Errorf("there is %v with the code %d", e, code)
	}
	switch code {
	case impl.EvalDone:
		return impl.FormatExpr(e)
	case impl.EvalStuck:
		return isStuck
	case impl.EvalLarge:
		return isLarge
	}
	return "other"
}

// someDefs has functions with each number of arguments.
const someDefs = "A0=(1+2);B1=<a,a>;C2=(b a);D3=[a?b:c];E4=((a-b) (c+d));F0=B;"

// stepCases has expressions that are no values, and the results of their steps.
var stepCases = map[string]string{
	// A function without arguments, also with some behind it.
	"A": "(1+2)", "F": "B", "(A 7)": "((1+2) 7)", "((A 7) <8,9>)": "(((1+2) 7) <8,9>)", "(F 1)": "(B 1)",
	// As many arguments as the function has, and more.
	"(B (1+2))": "<(1+2),(1+2)>", "((C 1) B)": "(B 1)", "(((D 1) 2) 3)": "[1?2:3]", "((((E 1) 2) 3) 4)": "((1-2) (3+4))",
	"((B 1) 2)": "(<1,1> 2)", "(((B 1) 2) (3+4))": "((<1,1> 2) (3+4))", "((((C 1) 2) 3) 4)": "(((2 1) 3) 4)", "(((((E A) F) 3) 4) 5)": "(((A-F) (3+4)) 5)",
	// Arguments are not evaluated, even if they are stuck.
	"(B (1 2))": "<(1 2),(1 2)>", "((C ~1) (B A))": "((B A) ~1)",
	// Something else in front of arguments.
	"(1 2)": isStuck, "((1 2) 3)": isStuck, "(0 A)": isStuck, "(<1,2> 3)": isStuck, "((<B,B> A) 3)": isStuck, "(<1,2> (1+2))": isStuck,
	"((1+2) 3)": "(3 3)", "(((1+2) 3) 4)": "((3 3) 4)", "(~<B,1> 2)": "(B 2)", "((^<1,C> 2) 3)": "((C 2) 3)", "([0?B:1] A)": "(B A)",
	"(~(B C) 1)": "(~<C,C> 1)", "((~1 2) 3)": isStuck, "([B?1:2] 3)": isStuck, "((B+1) 3)": isStuck, "(~A 1)": "(~(1+2) 1)",
	// The parts of a pair.
	"~<A,2>": "A", "^<A,2>": "2", "~<(1 2),3>": "(1 2)", "~(B 1)": "~<1,1>", "^^<1,<2,3>>": "^<2,3>", "~A": "~(1+2)",
	"~3": isStuck, "^3": isStuck, "~B": isStuck, "^(C 1)": isStuck, "~(1 2)": isStuck, "^~4": isStuck, "~(C <1,2>)": isStuck,
	// A choice does not evaluate what is chosen.
	"[0?A:2]": "A", "[1?A:(1+1)]": "(1+1)", "[999?(1 1):(2 2)]": "(2 2)", "[0?(1 1):(2 2)]": "(1 1)", "[(1-1)?A:B]": "[0?A:B]", "[A?1:2]": "[(1+2)?1:2]",
	"[<0,0>?1:2]": isStuck, "[B?1:2]": isStuck, "[(C 0)?1:2]": isStuck, "[(1 2)?3:4]": isStuck,
	// The first operand of a sum, and then the second one.
	"(1+2)": "3", "(2-1)": "1", "(1-2)": "999", "(0-999)": "1", "(0-0)": "0", "(999-999)": "0", "(999+1)": "0", "(999+999)": "998", "(0+999)": "999", "(999-0)": "999",
	"((1+2)+(3+4))": "(3+(3+4))", "(3+(3+4))": "(3+7)", "((1-2)-A)": "(999-A)", "(3-A)": "(3-(1+2))", "((1+2)+(1 2))": "(3+(1 2))",
	"(A+~1)": "((1+2)+~1)", "(<1,2>+A)": isStuck, "(B-A)": isStuck, "((C 1)+(1+1))": isStuck, "(~1+A)": isStuck, "(1+<1,2>)": isStuck, "(1-B)": isStuck, "(1+~1)": isStuck,
	"(<1,2>+(1+1))": isStuck, "(1+(C A))": isStuck, "(F+1)": "(B+1)",
	// Steps inside of operands.
	"((~<(1+2),4>+1)+5)": "(((1+2)+1)+5)", "~~<<A,1>,2>": "~<A,1>", "[[0?1:2]?3:4]": "[1?3:4]", "^[(1+1)?<1,2>:3]": "^[2?<1,2>:3]", "((1-((B 1) 1))+2)": "((1-(<1,1> 1))+2)",
}

func TestStepName(t *testing.T) {
	p := mustProgram(t, someDefs)
	for text, want := range stepCases {
		e := mustExpr(t, text)
		got, code := impl.StepName(p, e)
		if end := endOf(t, got, code); end != want {
			t.Errorf("the step of %s is %s, not %s", text, end, want)
		}
		if impl.IsHead(p, e) {
			t.Errorf("%s is a value", text)
		}
	}
}

func TestValues(t *testing.T) {
	p := mustProgram(t, someDefs)
	values := []string{"0", "999", "<1,2>", "<A,~3>", "<(1 2),(1+1)>", "B", "C", "(C 1)", "(C (1 2))", "D", "(D 1)", "((D A) A)", "E", "(E ~1)", "((E 1) 2)", "(((E 1) 2) <3,(4 5)>)"}
	for _, text := range values {
		e := mustExpr(t, text)
		if !impl.IsHead(p, e) {
			t.Errorf("%s is no value", text)
		}
		if got, code := impl.StepName(p, e); code != impl.EvalDone || !equal(got, e) {
			t.Errorf("StepName(%s) = %v, %d", text, got, code)
		}
		for _, fuel := range []int{0, 1, impl.MaxFuel} {
			if got, code, steps := impl.EvalName(p, e, fuel); code != impl.EvalDone || steps != 0 || !equal(got, e) {
				t.Errorf("EvalName(%s) = %v, %d, %d", text, got, code, steps)
			}
			if got, code := impl.TraceName(p, e, fuel); code != impl.EvalDone || len(got) != 1 || !equal(got[0], e) {
				t.Errorf("TraceName(%s) = %v, %d", text, got, code)
			}
		}
	}
}

// traceText returns the texts of a trace.
func traceText(trace []impl.Expr) string {
	var texts []string
	for _, e := range trace {
		texts = append(texts, impl.FormatExpr(e))
	}
	return strings.Join(texts, ";")
}

func TestTraces(t *testing.T) {
	cases := []struct {
		program, trace string
		number, code   int
	}{
		{"A1=(a+a);", "(A (1+1));((1+1)+(1+1));(2+(1+1));(2+2);4", 4, impl.EvalDone},
		{"", "7", 7, impl.EvalDone},
		{"A0=<1,B>;B0=5;", "^A;^<1,B>;B;5", 5, impl.EvalDone},
		{"A0=(A+1);", "(0+[1?A:2]);(0+2);2", 2, impl.EvalDone},
		{"A2=a;B1=(B a);", "((A 4) (B 1));4", 4, impl.EvalDone},
		{"A3=((a c) (b c));B2=a;", "(((A B) B) 7);((B 7) (B 7));7", 7, impl.EvalDone},
		{"A1=(a+a);", "(A <1,2>);(<1,2>+<1,2>)", 0, impl.EvalStuck},
		{"A2=a;", "((A 4) 5);4", 4, impl.EvalDone},
		{"A2=a;", "(((A 4) 5) 6);(4 6)", 0, impl.EvalStuck},
		{"A0=<1,2>;", "(A 3);(<1,2> 3)", 0, impl.EvalStuck},
		{"A0=1;", "(A 3);(1 3)", 0, impl.EvalStuck},
		{"", "~<<1,2>,3>;<1,2>", 0, impl.EvalDone},
		{"A2=(a+b);", "~<(A 1),2>;(A 1)", 0, impl.EvalDone},
	}
	for _, c := range cases {
		p := mustProgram(t, c.program)
		texts := strings.Split(c.trace, ";")
		e := mustExpr(t, texts[0])
		trace, code := impl.TraceName(p, e, 20)
		if got := traceText(trace); got != c.trace || code != c.code {
			t.Errorf("the trace is %s with %d, not %s with %d", got, code, c.trace, c.code)
		}
		last := texts[len(texts)-1]
		if c.code == impl.EvalStuck {
			last = isStuck
		}
		got, code, steps := impl.EvalName(p, e, 20)
		if endOf(t, got, code) != last || code != c.code || steps != len(texts)-1 {
			t.Errorf("EvalName(%s) = %v, %d, %d", texts[0], got, code, steps)
		}
		wantCode := c.code
		if last[0] == '<' || last[0] == '(' {
			wantCode = impl.EvalStuck
		}
		if n, code := impl.NumberName(p, e, 20); n != c.number || code != wantCode {
			t.Errorf("NumberName(%s) = %d, %d", texts[0], n, code)
		}
	}
}

func TestSecondOperandsThatAreNotNeeded(t *testing.T) {
	// A is without end and B is stuck: each of them would show, if it were evaluated.
	p := mustProgram(t, "A0=A;B0=(1 2);C2=a;D2=b;")
	for text, want := range map[string]int{
		"~<1,A>": 1, "~<1,B>": 1, "^<A,2>": 2, "^<B,2>": 2, "[0?3:A]": 3, "[1?A:4]": 4, "[0?3:B]": 3, "[1?B:4]": 4,
		"((C 5) A)": 5, "((C 5) B)": 5, "((D A) 6)": 6, "((D B) 6)": 6,
	} {
		if n, code := impl.NumberName(p, mustExpr(t, text), 10); n != want || code != impl.EvalDone {
			t.Errorf("NumberName(%s) = %d, %d", text, n, code)
		}
	}
	// A first operand that is no number is stuck at once, whatever the second one is.
	for _, text := range []string{"(<1,2>+A)", "(C-A)", "((C 1)+A)", "(<1,2>+1)", "(C-B)"} {
		if e, code, steps := impl.EvalName(p, mustExpr(t, text), 10); code != impl.EvalStuck || steps != 0 || !isZero(e) {
			t.Errorf("EvalName(%s) = %v, %d, %d", text, e, code, steps)
		}
	}
	for _, text := range []string{"(1+A)", "(A+B)", "(A-<1,2>)", "[A?B:B]", "~A", "(A 1)"} {
		if e, code, steps := impl.EvalName(p, mustExpr(t, text), 10); code != impl.EvalFuel || steps != 10 || !isZero(e) {
			t.Errorf("EvalName(%s) = %v, %d, %d", text, e, code, steps)
		}
	}
}

func TestFuel(t *testing.T) {
	cases := []struct {
		program, text string
		number, steps int
		code          int
	}{
		{"A1=[a?1:(a+(A (a-1)))];", "(A 3)", 7, 20, impl.EvalDone},
		{"A1=(a+a);", "(A <1,2>)", 0, 1, impl.EvalStuck},
		{"A1=(A <a,a>);", "(A 1)", 0, 4, impl.EvalLarge},
		{"", "(1 2)", 0, 0, impl.EvalStuck},
		{"", "((((((((0+1)+1)+1)+1)+1)+1)+1)+1)", 8, 8, impl.EvalDone},
	}
	for _, c := range cases {
		p, e := mustProgram(t, c.program), mustExpr(t, c.text)
		whole, code := impl.TraceName(p, e, impl.MaxFuel)
		if len(whole) != c.steps+1 || code != c.code {
			t.Errorf("TraceName(%s) has %d expressions, and the code %d", c.text, len(whole), code)
			continue
		}
		for _, fuel := range []int{0, 1, 2, 3, 4, 5, 6, 7, 8, 9, 19, 20, 21, impl.MaxFuel - 1, impl.MaxFuel} {
			// Without fuel for a step, it does not show that there is none.
			steps, want, wantNumber := c.steps, c.code, c.number
			if fuel < steps || fuel == steps && c.code != impl.EvalDone {
				steps, want, wantNumber = fuel, impl.EvalFuel, 0
			}
			last := impl.Expr{}
			if want == impl.EvalDone {
				last = whole[steps]
			}
			if got, code, many := impl.EvalName(p, e, fuel); code != want || many != steps || !equal(got, last) {
				t.Errorf("EvalName(%s, %d) = %v, %d, %d", c.text, fuel, got, code, many)
			}
			if n, code := impl.NumberName(p, e, fuel); code != want || n != wantNumber {
				t.Errorf("NumberName(%s, %d) = %d, %d", c.text, fuel, n, code)
			}
			trace, code := impl.TraceName(p, e, fuel)
			if code != want || traceText(trace) != traceText(whole[:steps+1]) {
				t.Errorf("TraceName(%s, %d) = %s, %d", c.text, fuel, traceText(trace), code)
			}
		}
	}
}

func TestMostFuel(t *testing.T) {
	p := mustProgram(t, "A0=A;B1=[a?5:(B (a-1))];")
	if e, code, steps := impl.EvalName(p, mustExpr(t, "A"), impl.MaxFuel); code != impl.EvalFuel || steps != 300 || !isZero(e) {
		t.Errorf("EvalName = %v, %d, %d", e, code, steps)
	}
	trace, code := impl.TraceName(p, mustExpr(t, "A"), impl.MaxFuel)
	if code != impl.EvalFuel || len(trace) != 301 || traceText(trace) != strings.Repeat("A;", 300)+"A" {
		t.Errorf("TraceName has %d expressions, and the code %d", len(trace), code)
	}
	if n, code := impl.NumberName(p, mustExpr(t, "(B 2)"), impl.MaxFuel); n != 5 || code != impl.EvalDone {
		t.Errorf("NumberName = %d, %d", n, code)
	}
}

// checkInvalid checks the functions of the chapter with arguments that are not valid.
func checkInvalid(t *testing.T, p []impl.Def, e impl.Expr, fuel int) {
	t.Helper()
	if got, code, steps := impl.EvalName(p, e, fuel); code != impl.EvalInvalid || steps != 0 || !isZero(got) {
		t.Errorf("EvalName(%v, %v, %d) = %v, %d, %d", p, e, fuel, got, code, steps)
	}
	if n, code := impl.NumberName(p, e, fuel); code != impl.EvalInvalid || n != 0 {
		t.Errorf("NumberName(%v, %v, %d) = %d, %d", p, e, fuel, n, code)
	}
	if trace, code := impl.TraceName(p, e, fuel); code != impl.EvalInvalid || len(trace) != 0 {
		t.Errorf("TraceName(%v, %v, %d) = %v, %d", p, e, fuel, trace, code)
	}
}

// checkNotClosed checks the functions of the chapter if p is not valid, or e not closed for it.
func checkNotClosed(t *testing.T, p []impl.Def, e impl.Expr) {
	t.Helper()
	if impl.IsHead(p, e) {
		t.Errorf("IsHead(%v, %v)", p, e)
	}
	if got, code := impl.StepName(p, e); code != impl.EvalInvalid || !isZero(got) {
		t.Errorf("StepName(%v, %v) = %v, %d", p, e, got, code)
	}
	for _, fuel := range []int{-1, 0, 10, impl.MaxFuel, impl.MaxFuel + 1} {
		checkInvalid(t, p, e, fuel)
	}
}

func TestInvalidExprsByName(t *testing.T) {
	p := mustProgram(t, "A2=a;B0=1;")
	for _, text := range []string{"a", "d", "(a 1)", "(A a)", "<a,1>", "<1,b>", "[0?1:a]", "C", "F", "(A C)", "<1,C>", "[0?1:C]", "((A 1) C)"} {
		checkNotClosed(t, p, mustExpr(t, text))
	}
	checkNotClosed(t, nil, global(0))
	wrong := append(wrongNodes(), fullTree(61), chain(16, number(1)), chain(1000000, number(1)), endless(impl.ExpFst), doubled(60, number(1)))
	for _, w := range wrong {
		checkNotClosed(t, p, w)
		checkNotClosed(t, p, node(impl.ExpPair, 0, number(1), w))
		checkNotClosed(t, p, node(impl.ExpIf, 0, number(0), number(1), w))
		checkNotClosed(t, []impl.Def{{Body: number(1)}, {Body: w}}, number(1))
		checkNotClosed(t, []impl.Def{{Body: w}}, global(0))
	}
	loop := make([]impl.Expr, 2)
	loop[0], loop[1] = impl.Expr{Op: impl.ExpApp, Kids: loop}, number(1)
	checkNotClosed(t, p, loop[0])
}

func TestInvalidProgramsByName(t *testing.T) {
	one := number(1)
	for _, p := range [][]impl.Def{
		{{Arity: -1, Body: one}}, {{Arity: 5, Body: one}}, {{Arity: 1, Body: variable(1)}}, {{Body: variable(0)}}, {{Body: global(1)}}, {{}},
		{{Body: one}, {Body: one}, {Body: one}, {Body: one}, {Body: one}, {Body: one}, {Body: one}},
	} {
		for _, text := range []string{"1", "(1+1)", "(1 2)", "A"} {
			checkNotClosed(t, p, mustExpr(t, text))
		}
	}
}

func TestInvalidFuel(t *testing.T) {
	p := mustProgram(t, "A1=(a+a);")
	for _, fuel := range []int{-1, -2, -1 << 63, 301, 302, 1<<63 - 1} {
		for _, text := range []string{"1", "<1,2>", "A", "(A 1)", "(1 2)"} {
			checkInvalid(t, p, mustExpr(t, text), fuel)
		}
	}
}

func TestNamesShareNoMemory(t *testing.T) {
	p := mustProgram(t, "A1=<a,<(1+2),a>>;B2=[0?b:a];")
	program := impl.FormatProgram(p)
	for _, text := range []string{"<(1+2),<3,4>>", "(B (1+2))", "(A (1+2))", "(~<A,1> (1+2))", "~<<(1+2),3>,4>", "^<4,<3,(1+2)>>", "[0?<1,(1+2)>:3]", "(1+(2 (1+2)))", "((B 1) <2,(1+2)>)"} {
		e := mustExpr(t, text)
		step, code := impl.StepName(p, e)
		value, evalCode, _ := impl.EvalName(p, e, 9)
		trace, _ := impl.TraceName(p, e, 9)
		stepText, valueText, traceBefore := impl.FormatExpr(step), impl.FormatExpr(value), traceText(trace)
		for i := range trace {
			rest := traceText(trace[i+1:])
			spoil(trace[i])
			if traceText(trace[i+1:]) != rest {
				t.Errorf("two results of TraceName(%s) share memory", text)
			}
		}
		spoil(step)
		if impl.FormatExpr(value) != valueText || impl.FormatExpr(e) != text || impl.FormatProgram(p) != program {
			t.Errorf("a result for %s shares memory with others", text)
		}
		spoil(value)
		if impl.FormatExpr(e) != text || impl.FormatProgram(p) != program {
			t.Errorf("a result for %s shares memory with others", text)
		}
		again, c := impl.StepName(p, e)
		if c != code || impl.FormatExpr(again) != stepText {
			t.Errorf("StepName(%s) has another result now", text)
		}
		last, c, _ := impl.EvalName(p, e, 9)
		trace, _ = impl.TraceName(p, e, 9)
		spoil(e)
		if c != evalCode || impl.FormatExpr(last) != valueText || impl.FormatExpr(again) != stepText || traceText(trace) != traceBefore {
			t.Errorf("a result for %s shares memory with the expression", text)
		}
	}
}

func TestPartsOfOneStepShareNoMemory(t *testing.T) {
	p := mustProgram(t, "A1=<a,<(1+2),a>>;")
	step, _ := impl.StepName(p, mustExpr(t, "(A (3+4))"))
	value, _, _ := impl.EvalName(p, mustExpr(t, "(A (3+4))"), 9)
	part := mustExpr(t, "(3+4)")
	same, _ := impl.StepName(p, node(impl.ExpPair, 0, part, node(impl.ExpPair, 0, mustExpr(t, "(1+2)"), part)))
	for _, e := range []impl.Expr{step, value, same} {
		spoil(e.Kids[0])
		if impl.FormatExpr(e.Kids[1]) != "<(1+2),(3+4)>" {
			t.Errorf("two parts of a result share memory: %v", e)
		}
	}
	spoil(step.Kids[1])
	if impl.FormatProgram(p) != "A1=<a,<(1+2),a>>\n" {
		t.Error("a result shares memory with the program")
	}
}

func TestNamesShareNoUnusedMemory(t *testing.T) {
	room := make([]impl.Expr, 2)
	hidden := impl.Expr{Op: impl.ExpNum, N: 1, Kids: room[:0]}
	p := []impl.Def{{Body: impl.Expr{Op: impl.ExpNum, N: 2, Kids: room[1:1]}}}
	for _, e := range []impl.Expr{hidden, node(impl.ExpFst, 0, node(impl.ExpPair, 0, hidden, hidden)), global(0)} {
		step, _ := impl.StepName(p, e)
		value, _, _ := impl.EvalName(p, e, 9)
		trace, _ := impl.TraceName(p, e, 9)
		for _, x := range append(trace, step, value) {
			_ = append(x.Kids, number(7))
			for _, k := range x.Kids {
				_ = append(k.Kids, number(7))
			}
		}
		if !isZero(room[0]) || !isZero(room[1]) {
			t.Errorf("a result for %s shares unused memory", impl.FormatExpr(e))
		}
	}
}
