package tests

import (
	"math/rand"
	"slices"
	"strings"
	"testing"

	"loop.example/graphreducer/impl"
)

// strictInCases has expressions, given needs, with the variables that they need.
var strictInCases = []struct{ expr, need, vars string }{
	{"a", "", "a"},
	{"d", "", "d"},
	{"7", "", ""},
	{"A", "", ""},
	{"<a,b>", "", ""},
	{"~a", "", "a"},
	{"^b", "", "b"},
	{"~<a,b>", "", ""},
	{"^~~c", "", "c"},
	{"(a+b)", "", "ab"},
	{"(a-b)", "", "ab"},
	{"(1+b)", "", "b"},
	{"(a-1)", "", "a"},
	{"((a+b)-(c+d))", "", "abcd"},
	// In one branch only, and in both.
	{"[a?b:c]", "", "a"},
	{"[a?b:b]", "", "ab"},
	{"[1?(a+b):(b+c)]", "", "b"},
	{"[1?(a+b):a]", "", "a"},
	{"[1?a:2]", "", ""},
	{"[1?2:a]", "", ""},
	{"[(a+b)?c:d]", "", "ab"},
	{"[0?[1?a:b]:[2?b:a]]", "", ""},
	{"[0?[a?b:c]:[b?a:c]]", "", ""},
	{"[0?[a?b:b]:[b?a:a]]", "", "ab"},
	{"[0?[a?b:c]:[b?a:a]]", "", "a"},
	// The function of nested applications, if it is no function of a program.
	{"(a b)", "", "a"},
	{"((a b) c)", "", "a"},
	{"((~a b) c)", "", "a"},
	{"([a?b:b] c)", "", "ab"},
	{"((a+b) c)", "", "ab"},
	{"(<a,b> c)", "", ""},
	{"(7 a)", "", ""},
	{"((a b) c)", "!!;!!", "a"},
	// Functions of the program.
	{"(A a)", "!;", "a"},
	{"(A a)", ".;", ""},
	{"((A a) b)", "!!;", "ab"},
	{"((A a) b)", "!.;", "a"},
	{"((A a) b)", ".!;", "b"},
	{"((A a) b)", "..;", ""},
	{"((A b) a)", "!.;", "b"},
	{"((A (a+b)) (c-d))", "!!;", "abcd"},
	{"((A (a+b)) (c-d))", ".!;", "cd"},
	{"((A <a,b>) c)", "!!;", "c"},
	{"((A a) a)", ".!;", "a"},
	{"((((A a) b) c) d)", "!.!.;", "ac"},
	{"((((A a) b) c) d)", ".!.!;", "bd"},
	// Not in need, or another one.
	{"(A a)", "", ""},
	{"(B a)", "!;", ""},
	{"(B a)", "!;!;", "a"},
	{"(B a)", ".;!;", "a"},
	{"(A a)", ".;!;", ""},
	{"(F a)", "!;!;!;!;!;", ""},
	{"(F a)", ".;.;.;.;.;!;", "a"},
	// Too few arguments, and more than enough.
	{"A", "!;", ""},
	{"(A a)", "!!;", ""},
	{"((A a) b)", "!!!;", ""},
	{"((A a) b)", "!..;", ""},
	{"((A a) b)", "!;", "a"},
	{"((A a) b)", ".;", ""},
	{"(((A a) b) c)", ".!;", "b"},
	{"(A a)", ";", ""},
	{"A", ";", ""},
	{"((((A a) b) c) d)", "!!!!!;", ""},
	{"(((((A a) b) c) d) (a+b))", "....!;", "ab"},
	// Calls in calls, and in other expressions.
	{"(A (A a))", "!;", "a"},
	{"(A (B a))", "!;!;", "a"},
	{"(A (B a))", "!;.;", ""},
	{"(A (B a))", ".;!;", ""},
	{"((A (B a)) b)", "!.;!;", "a"},
	{"((A B) a)", "!!;!;", "a"},
	{"((A (B a)) b)", "!!;!!;", "b"},
	{"~(A a)", "!;", "a"},
	{"((A a)+b)", "!;", "ab"},
	{"[(A a)?(A b):(1-b)]", "!;", "ab"},
	{"[0?(A b):(B b)]", "!;.;", ""},
	{"(~(A a) b)", "!;", "a"},
	{"((a (A b)) c)", "!;", "a"},
}

// variableText returns the letters of some variables.
func variableText(isOne func(v int) bool) string {
	var b strings.Builder
	for v := range allVars {
		if isOne(v) {
			b.WriteByte(byte('a' + v))
		}
	}
	return b.String()
}

func TestStrictIn(t *testing.T) {
	for _, c := range strictInCases {
		e, need := mustExpr(t, c.expr), needOf(t, c.need)
		if got := variableText(func(v int) bool { return impl.StrictIn(e, v, need) }); got != c.vars {
			t.Errorf("with %q, %s needs %q, not %q", c.need, c.expr, got, c.vars)
		}
		for _, v := range []int{-1 << 63, -1, 4, 5, 1<<63 - 1} {
			if impl.StrictIn(e, v, need) {
				t.Errorf("with %q, %s needs the variable %d", c.need, c.expr, v)
			}
		}
	}
}

func TestStrictInRefused(t *testing.T) {
	for many := range 9 {
		need := make([][]bool, many)
		if got := impl.StrictIn(variable(0), 0, need); got != (many <= allDefs) {
			t.Errorf("StrictIn with %d functions is %v", many, got)
		}
	}
	wrong := append(wrongNodes(), tooLargeExprs()...)
	wrong = append(wrong, variable(-1), variable(4), global(6), global(-1), number(1000), doubled(70, variable(0)))
	for _, w := range wrong {
		for _, e := range []impl.Expr{w, node(impl.ExpAdd, 0, variable(0), w), node(impl.ExpAdd, 0, w, variable(0)), node(impl.ExpApp, 0, variable(0), w), node(impl.ExpIf, 0, variable(0), number(1), w), callOf(0, variable(0), w)} {
			for v := -1; v <= 4; v++ {
				if impl.StrictIn(e, v, [][]bool{{true}}) {
					t.Errorf("an expression that is not valid needs the variable %d", v)
				}
			}
		}
	}
	for _, e := range []impl.Expr{variable(4), chain(1, variable(4)), variable(-1)} {
		if impl.StrictIn(e, e.N, nil) || impl.StrictIn(e, 4, nil) || impl.StrictIn(e, -1, nil) {
			t.Errorf("%v needs a variable", e)
		}
	}
}

func TestStrictInOfLimits(t *testing.T) {
	for depth := 14; depth < 19; depth++ {
		if got := impl.StrictIn(chain(depth-1, variable(3)), 3, nil); got != (depth <= impl.MaxDepth) {
			t.Errorf("StrictIn with a depth of %d is %v", depth, got)
		}
	}
	for rest := 55; rest < 60; rest++ {
		e := node(impl.ExpAdd, 0, variable(2), sized(rest))
		if got := impl.StrictIn(e, 2, nil); got != (rest+2 <= impl.MaxNodes) {
			t.Errorf("StrictIn with %d nodes is %v", rest+2, got)
		}
	}
	// As many arguments as there can be, of which the last one is needed.
	var args []impl.Expr
	for range impl.MaxDepth - 2 {
		args = append(args, number(1))
	}
	e := callOf(5, append(args, variable(1))...)
	for many := range impl.MaxDepth + 3 {
		need := append(make([][]bool, 5), make([]bool, many))
		if many > 0 {
			need[5][many-1] = true
		}
		if got := impl.StrictIn(e, 1, need); got != (many == impl.MaxDepth-1) {
			t.Errorf("StrictIn with %d arguments of a function is %v", many, got)
		}
	}
}

func TestRandomStrictIn(t *testing.T) {
	r := rand.New(rand.NewSource(91))
	yes, calls := 0, 0
	for i := range 30000 {
		e := randomExpr(r, allVars, allDefs, 1+i%6)
		if i%2 == 0 {
			e = randomNumber(r, allVars, randomProgram(r), 1+i%5)
		}
		if !impl.ExprValid(e, allVars, allDefs) {
			continue
		}
		need := randomNeed(r, allDefs, 5)
		for v := range allVars {
			want := neededBy(e, need)>>v&1 == 1
			if got := impl.StrictIn(e, v, need); got != want {
				t.Fatalf("StrictIn(%s, %d, %s) is %v", impl.FormatExpr(e), v, needText(need), got)
			}
			if want {
				yes++
			}
			if want && !impl.StrictIn(e, v, nil) {
				calls++
			}
		}
	}
	if yes < 5000 || calls < 500 {
		t.Errorf("%d variables are needed, and %d by calls", yes, calls)
	}
}

// strictCases has programs with the arguments that are needed, and those that are not used.
var strictCases = []struct{ program, need, unused string }{
	{"", "", ""},
	{"A0=1;", ";", ";"},
	{"A2=[a?b:((A (a-1)) (b+b))];", "!!;", "..;"},
	{"A2=a;", "!.;", ".!;"},
	{"A1=<a,a>;", ".;", ".;"},
	{"A4=(a+c);", "!.!.;", ".!.!;"},
	{"A4=1;", "....;", "!!!!;"},
	// A function that only calls itself has no value.
	{"A1=(A a);", "!;", ".;"},
	{"A2=((A b) a);", "!!;", "..;"},
	{"A2=((A a) a);", "!.;", ".!;"},
	{"A2=((A 1) a);", "..;", ".!;"},
	{"A1=(A 1);", ".;", "!;"},
	{"A0=A;", ";", ";"},
	{"A1=(A (A a));", "!;", ".;"},
	{"A1=(B a);B1=(A a);", "!;!;", ".;.;"},
	{"A2=((B b) a);B2=((A a) b);", "!!;!!;", "..;..;"},
	{"A2=((A b) 1);", "..;", "!.;"},
	// In one branch only, with and without an end.
	{"A2=[a?b:1];", "!.;", "..;"},
	{"A2=[a?1:b];", "!.;", "..;"},
	{"A2=[a?b:(b+1)];", "!!;", "..;"},
	{"A2=[a?1:((A (a-1)) b)];", "!.;", "..;"},
	{"A2=[a?b:((A (a-1)) 1)];", "!.;", "..;"},
	{"A3=[a?(b+c):(((A (a-1)) c) b)];", "!!!;", "...;"},
	{"A3=[a?b:(((A (a-1)) c) b)];", "!..;", "...;"},
	{"A2=[a?b:(B b)];B1=(B a);", "!!;!;", "..;.;"},
	// Too few arguments make a value, and more than enough do not matter.
	{"A2=(A a);", "..;", ".!;"},
	{"A1=A;", ".;", "!;"},
	{"A1=((A a) 1);", "!;", ".;"},
	{"A1=(((A a) a) a);", "!;", ".;"},
	{"A1=(B a);B2=(a+b);", ".;!!;", ".;..;"},
	{"A2=((B a) b);B1=a;", "!.;!;", "..;.;"},
	{"A1=~(B a);B2=a;", ".;!.;", ".;.!;"},
	// Functions as arguments say nothing about what they need.
	{"A1=(a 1);", "!;", ".;"},
	{"A2=(a b);B1=((A C) a);C1=a;", "!.;.;!;", "..;.;.;"},
	// What one function does not need, the ones before it do not need either.
	{"A1=(B a);B1=(C a);C1=(D a);D1=(E a);E1=(F a);F1=1;", ".;.;.;.;.;.;", ".;.;.;.;.;!;"},
	{"A1=1;B1=(A a);C1=(B a);D1=(C a);E1=(D a);F1=(E a);", ".;.;.;.;.;.;", "!;.;.;.;.;.;"},
	{"A1=(B a);B1=(C a);C1=(D a);D1=(E a);E1=(F a);F1=a;", "!;!;!;!;!;!;", ".;.;.;.;.;.;"},
	{"A4=((((A b) c) d) 1);", "....;", "!...;"},
	{"A4=((((A b) c) d) a);", "!!!!;", "....;"},
	{"A4=((((A 1) a) b) c);", "....;", "...!;"},
	{"A4=((((A 1) b) c) d);", ".!!!;", "!...;"},
	{"A4=[a?d:((((A b) c) d) 1)];", "!...;", "....;"},
	{"A3=(((B b) c) a);B3=[0?(a+b):(((A b) c) a)];", "...;...;", "...;...;"},
	{"A3=(((B b) c) a);B3=[0?((a+b)+c):(((A b) c) a)];", "!!!;!!!;", "...;...;"},
	{"A0=B;B0=(C 1);C1=(a+A);", ";;!;", ";;.;"},
	{"A2=[a?b:((A (a-1)) (b+b))];B2=a;C1=<a,a>;D2=((B b) a);", "!!;!.;.;.!;", "..;.!;.;..;"},
}

func TestStrictArgs(t *testing.T) {
	for _, c := range strictCases {
		p := mustProgram(t, c.program)
		need := impl.StrictArgs(p)
		if got := needText(need); got != c.need {
			t.Errorf("StrictArgs(%s) = %q, not %q", c.program, got, c.need)
		}
		if !impl.NeedHolds(p, need) || !impl.NeedHolds(p, needOf(t, c.need)) {
			t.Errorf("NeedHolds(%s, %q) is false", c.program, c.need)
		}
		if got := needText(impl.UnusedArgs(p)); got != c.unused {
			t.Errorf("UnusedArgs(%s) = %q, not %q", c.program, got, c.unused)
		}
	}
}

func TestNeedHolds(t *testing.T) {
	for _, c := range []struct {
		program, need string
		want          bool
	}{
		{"", "", true},
		{"A2=a;", "!.;", true},
		{"A2=a;", "..;", true},
		{"A2=a;", ".!;", false},
		{"A2=a;", "!!;", false},
		// What is said of a function holds by what is said of all of them.
		{"A1=(A a);", "!;", true},
		{"A1=(A a);", ".;", true},
		{"A1=(B a);B1=a;", "!;!;", true},
		{"A1=(B a);B1=a;", ".;!;", true},
		{"A1=(B a);B1=a;", "!;.;", false},
		{"A1=(B a);B1=a;", ".;.;", true},
		{"A1=(B a);B1=(A a);", "!;!;", true},
		{"A1=(B a);B1=(A a);", ".;!;", false},
		{"A1=(B a);B1=(A a);", "!;.;", false},
		{"A1=(B a);B1=1;", "!;!;", false},
		{"A2=((A b) a);", "!.;", false},
		{"A2=((A b) a);", "!!;", true},
		{"A2=[a?b:((A (a-1)) (b+b))];", "!.;", true},
		{"A2=[a?b:((A (a-1)) (b+b))];", ".!;", true},
		{"A2=[a?b:((A (a-1)) 1)];", ".!;", false},
		{"A2=(A a);", "!.;", false},
		// Too few or too many functions, or arguments.
		{"A2=a;", "", false},
		{"A2=a;", ";", false},
		{"A2=a;", "!;", false},
		{"A2=a;", "!..;", false},
		{"A2=a;", "...;", false},
		{"A2=a;", "!.;;", false},
		{"A2=a;", ";!.;", false},
		{"A0=1;", "", false},
		{"A0=1;", ";", true},
		{"A0=1;", ".;", false},
		{"A0=1;", ";;", false},
		{"", ";", false},
		{"A1=a;B0=1;", "!;", false},
		{"A1=a;B0=1;", "!;;", true},
		{"A1=a;B0=1;", ";!;", false},
	} {
		if got := impl.NeedHolds(mustProgram(t, c.program), needOf(t, c.need)); got != c.want {
			t.Errorf("NeedHolds(%s, %q) is %v", c.program, c.need, got)
		}
	}
}

// TestStrictArgsIsTheMost compares with all that can be said about the arguments of a program.
func TestStrictArgsIsTheMost(t *testing.T) {
	r := rand.New(rand.NewSource(92))
	tried, several := 0, 0
	for tried < 2500 {
		p := callingProgram(r)
		if arityOf(p) > 8 {
			continue
		}
		tried++
		want, others := strictBy(t, p)
		if got := impl.StrictArgs(p); needText(got) != needText(want) {
			t.Fatalf("StrictArgs(%s) = %s, not %s", impl.FormatProgram(p), needText(got), needText(want))
		}
		if others > 3 {
			several++
		}
		for all := range uint(1) << arityOf(p) {
			need := needOfBits(p, all)
			if got := impl.NeedHolds(p, need); got != holdsBy(p, need) {
				t.Fatalf("NeedHolds(%s, %s) is %v", impl.FormatProgram(p), needText(need), got)
			}
		}
	}
	if several < 100 {
		t.Errorf("%d programs have several needs that hold", several)
	}
}

func TestRandomStrictArgs(t *testing.T) {
	r := rand.New(rand.NewSource(93))
	yes, no := 0, 0
	for range 3000 {
		p := randomProgram(r)
		need, unused := impl.StrictArgs(p), impl.UnusedArgs(p)
		if !impl.NeedHolds(p, need) || len(need) != len(p) || len(unused) != len(p) {
			t.Fatalf("StrictArgs(%s) = %s", impl.FormatProgram(p), needText(need))
		}
		for f, d := range p {
			if len(need[f]) != d.Arity || len(unused[f]) != d.Arity {
				t.Fatalf("StrictArgs(%s) = %s", impl.FormatProgram(p), needText(need))
			}
			text := impl.FormatExpr(d.Body)
			for v := range d.Arity {
				if unused[f][v] == strings.Contains(text, string(rune('a'+v))) {
					t.Fatalf("UnusedArgs(%s) = %s", impl.FormatProgram(p), needText(unused))
				}
				if need[f][v] {
					yes++
				} else {
					no++
				}
			}
		}
	}
	if yes < 2000 || no < 2000 {
		t.Errorf("%d arguments are needed, and %d are not", yes, no)
	}
}

func TestInvalidProgramsNeedNothing(t *testing.T) {
	for _, p := range wrongPrograms() {
		if need := impl.StrictArgs(p); len(need) != 0 {
			t.Errorf("StrictArgs(%v) = %v", p, need)
		}
		if unused := impl.UnusedArgs(p); len(unused) != 0 {
			t.Errorf("UnusedArgs(%v) = %v", p, unused)
		}
		var need [][]bool
		for _, d := range p {
			need = append(need, make([]bool, max(d.Arity, 0)))
		}
		if impl.NeedHolds(p, need) || impl.NeedHolds(p, nil) {
			t.Errorf("NeedHolds(%v) is true", p)
		}
	}
}

func TestNeedsShareNoMemory(t *testing.T) {
	const program = "A2=[a?b:((A (a-1)) b)];B4=((c d) a);C0=1;D1=a;"
	p := mustProgram(t, program)
	for _, find := range []func([]impl.Def) [][]bool{impl.StrictArgs, impl.UnusedArgs} {
		first, again := find(p), find(p)
		want := needText(again)
		for f := range first {
			row := first[f][:cap(first[f])]
			others := needText(slices.Delete(slices.Clone(first), f, f+1))
			for v := range row {
				row[v] = !row[v]
			}
			if needText(slices.Delete(slices.Clone(first), f, f+1)) != others {
				t.Errorf("two functions of a need for %s share memory", program)
			}
		}
		spoilNeed(first)
		if needText(again) != want || needText(find(p)) != want || !samePrograms(p, mustProgram(t, program)) {
			t.Errorf("a need for %s shares memory with others", program)
		}
	}
	need := needOf(t, "!!;..!.;;!;")
	for range 2 {
		impl.StrictIn(mustExpr(t, "((A a) (D b))"), 1, need)
		impl.NeedHolds(p, need)
		if needText(need) != "!!;..!.;;!;" {
			t.Errorf("a need is changed to %q", needText(need))
		}
	}
}
