package tests

import (
	"math/rand"
	"regexp"
	"strings"
	"testing"

	"loop.example/graphreducer/impl"
)

const (
	allVars = impl.MaxArity
	allDefs = impl.MaxDefs
)

func TestExprTexts(t *testing.T) {
	a, d, one := variable(0), variable(3), number(1)
	cases := map[string]impl.Expr{
		"a":       a,
		"d":       d,
		"0":       number(0),
		"7":       number(7),
		"10":      number(10),
		"100":     number(100),
		"999":     number(999),
		"A":       global(0),
		"F":       global(5),
		"(a 1)":   node(impl.ExpApp, 0, a, one),
		"<a,1>":   node(impl.ExpPair, 0, a, one),
		"~a":      node(impl.ExpFst, 0, a),
		"^a":      node(impl.ExpSnd, 0, a),
		"(a+1)":   node(impl.ExpAdd, 0, a, one),
		"(a-1)":   node(impl.ExpSub, 0, a, one),
		"[a?d:1]": node(impl.ExpIf, 0, a, d, one),
		"~^~a":    node(impl.ExpFst, 0, node(impl.ExpSnd, 0, node(impl.ExpFst, 0, a))),
		"((a 1) d)": node(impl.ExpApp, 0,
			node(impl.ExpApp, 0, a, one), d),
		"(a (1 d))": node(impl.ExpApp, 0, a,
			node(impl.ExpApp, 0, one, d)),
		"(~<1,a>-(B+0))": node(impl.ExpSub, 0,
			node(impl.ExpFst, 0, node(impl.ExpPair, 0, one, a)),
			node(impl.ExpAdd, 0, global(1), number(0))),
	}
	for text, want := range cases {
		if got := impl.FormatExpr(want); got != text {
			t.Errorf("FormatExpr = %q, not %q", got, text)
		}
		if got, ok := impl.ParseExpr(text); !ok || !equal(got, want) {
			t.Errorf("ParseExpr(%q) = %v, %v", text, got, ok)
		}
	}
}

func TestExprTextsRefused(t *testing.T) {
	texts := []string{
		"", " ", "\n", "\x00", "\xff", "é", "()", "(", ")", "a ", " a", "aa", "a1", "1a", "(a)", "((a b))",
		"00", "01", "007", "-0", "-1", "+1", "1000", "0999", "1234", "1.0", "(01+1)", "(1+01)", "<00,1>", "[1?01:2]", "~01",
		"e", "z", "G", "Z", "(a e)", "(A G)", "`", "{", "@",
		"(a  b)", "( a b)", "(a b )", "(a b", "a b)", "(a b c)", "(a*b)", "(a,b)", "(a+b-c)", "(a+)", "(+a)", "(a ",
		"<a>", "<a b>", "<a,b", "<a,b)", "(a,b>", "<a,b,c>", "<,>", "~", "^", "~~", "~(a)", "a~", "^ a",
		"[a?b]", "[a?b:c", "[a:b?c]", "[a?b:c:d]", "[a b c]", "[a,b,c]", "[a?b:c)", "a\n", "a\x00", "A1=a\n",
	}
	for _, text := range texts {
		if e, ok := impl.ParseExpr(text); ok || !isZero(e) {
			t.Errorf("ParseExpr(%q) = %v, %v", text, e, ok)
		}
	}
}

var (
	digitRuns   = regexp.MustCompile(`[0-9]+`)
	goodNumber  = regexp.MustCompile(`^(0|[1-9][0-9]{0,2})$`)
	goodLetter  = regexp.MustCompile(`[a-dA-F]`)
	goodFormula = regexp.MustCompile(`\(#[ +-]#\)|<#,#>|[~^]#|\[#\?#:#\]`)
)

// isExprText decides by rewriting whether a short text is that of an expression.
func isExprText(text string) bool {
	if strings.Contains(text, "#") {
		return false
	}
	for _, run := range digitRuns.FindAllString(text, -1) {
		if !goodNumber.MatchString(run) {
			return false
		}
	}
	text = goodLetter.ReplaceAllString(digitRuns.ReplaceAllString(text, "#"), "#")
	return isRewritten(text, goodFormula)
}

// isRewritten reports whether a text is "#" in the end if all that matches a
// pattern is replaced by this, as often as there is something.
func isRewritten(text string, pattern *regexp.Regexp) bool {
	for {
		next := pattern.ReplaceAllString(text, "#")
		if next == text {
			return text == "#"
		}
		text = next
	}
}

// checkText checks that exactly the texts of expressions are parsed, and read back.
func checkText(t *testing.T, text string, want bool) {
	t.Helper()
	e, ok := impl.ParseExpr(text)
	if ok != want || !ok && !isZero(e) || ok && impl.FormatExpr(e) != text {
		t.Fatalf("ParseExpr(%q) = %v, %v", text, e, ok)
	}
}

func TestShortTextsAreParsedExactly(t *testing.T) {
	const alphabet = "ae01AG() +-<,>~[?]"
	valid := map[string]bool{}
	level := []string{""}
	for range 4 {
		var next []string
		for _, text := range level {
			for _, c := range alphabet {
				next = append(next, text+string(c))
			}
		}
		level = next
		for _, text := range level {
			want := isExprText(text)
			valid[text] = want
			checkText(t, text, want)
		}
	}
	if !valid["~~10"] || !valid["A"] || valid["~e"] || valid["01"] {
		t.Error("isExprText is wrong")
	}
}

func TestChangedTexts(t *testing.T) {
	const alphabet = "ade0159AFG() +-<,>~^[?:]x\x00\n\xc3"
	r := rand.New(rand.NewSource(1))
	accepted := 0
	for range 1500 {
		text := impl.FormatExpr(randomExpr(r, allVars, allDefs, 4))
		for range 20 {
			changed := changedText(r, text, alphabet)
			want := isExprText(changed)
			if want {
				accepted++
			}
			checkText(t, changed, want)
		}
	}
	if accepted == 0 {
		t.Error("no changed text is that of an expression")
	}
}

// changedText returns a text with a byte that is new, another one or missing.
func changedText(r *rand.Rand, text string, alphabet string) string {
	at := r.Intn(len(text) + 1)
	c := string(alphabet[r.Intn(len(alphabet))])
	if at < len(text) && r.Intn(3) > 0 {
		return text[:at] + c + text[at+1:]
	}
	if at < len(text) && r.Intn(2) > 0 {
		return text[:at] + text[at+1:]
	}
	return text[:at] + c + text[at:]
}

func TestRandomExprsAreReadBack(t *testing.T) {
	r := rand.New(rand.NewSource(2))
	refused := 0
	for i := range 20000 {
		e := randomExpr(r, allVars, allDefs, 1+i%8)
		size, _ := measure(e)
		text := impl.FormatExpr(e)
		if size > impl.MaxNodes {
			refused++
			if text != "" {
				t.Fatalf("FormatExpr of %d nodes = %q", size, text)
			}
			continue
		}
		if got, ok := impl.ParseExpr(text); !ok || !equal(got, e) || !impl.ExprSame(got, e) {
			t.Fatalf("ParseExpr(%q) = %v, %v", text, got, ok)
		}
		if impl.SizeOf(e) != size {
			t.Fatalf("SizeOf(%q) = %d", text, impl.SizeOf(e))
		}
	}
	if refused == 0 {
		t.Error("no expression is too large")
	}
}

func TestExprLimits(t *testing.T) {
	for _, size := range []int{57, 59, 61, 63} {
		for _, e := range []impl.Expr{fullTree(size), chain(1, fullTree(size))} {
			s, _ := measure(e)
			checkLimit(t, e, s <= impl.MaxNodes)
		}
	}
	for many := 13; many < 19; many++ {
		checkLimit(t, chain(many, number(1)), many+1 <= impl.MaxDepth)
		checkLimit(t, node(impl.ExpPair, 0, number(1), chain(many-1, variable(0))), many+1 <= impl.MaxDepth)
	}
}

// checkLimit checks an expression that may be too large, and its text.
func checkLimit(t *testing.T, e impl.Expr, want bool) {
	t.Helper()
	size, depth := measure(e)
	if impl.ExprValid(e, allVars, allDefs) != want || (impl.FormatExpr(e) != "") != want {
		t.Errorf("an expression with %d nodes and a depth of %d is valid: %v", size, depth, !want)
	}
	if got, ok := impl.ParseExpr(bigText(e)); ok != want || ok && !equal(got, e) || !ok && !isZero(got) {
		t.Errorf("ParseExpr with %d nodes and a depth of %d = %v, %v", size, depth, got, ok)
	}
}

// bigText returns the text of an expression of any size from fullTree and chain.
func bigText(e impl.Expr) string {
	switch e.Op {
	case impl.ExpFst:
		return "~" + bigText(e.Kids[0])
	case impl.ExpAdd:
		return "(" + bigText(e.Kids[0]) + "+" + bigText(e.Kids[1]) + ")"
	case impl.ExpPair:
		return "<" + bigText(e.Kids[0]) + "," + bigText(e.Kids[1]) + ">"
	}
	return impl.FormatExpr(e)
}

func TestLongTextsAreRefused(t *testing.T) {
	for _, part := range []string{"(", "~", "^", "<", "[", "1", "0", "a", "(a ", "<1,", "[1?2:", "\n", "A0=1\n"} {
		text := strings.Repeat(part, 1000000)
		if _, ok := impl.ParseExpr(text); ok {
			t.Errorf("ParseExpr accepts many %q", part)
		}
		if p, ok := impl.ParseProgram(text); ok || len(p) > 0 {
			t.Errorf("ParseProgram accepts many %q", part)
		}
	}
}

func TestExprValid(t *testing.T) {
	e := mustExpr(t, "[b?(A c):(B 5)]")
	for vars := -2; vars < 8; vars++ {
		for defs := -2; defs < 10; defs++ {
			want := 3 <= vars && vars <= 4 && 2 <= defs && defs <= 6
			if impl.ExprValid(e, vars, defs) != want {
				t.Errorf("ExprValid with %d and %d is %v", vars, defs, !want)
			}
			want = 0 <= vars && vars <= 4 && 0 <= defs && defs <= 6
			if impl.ExprValid(number(3), vars, defs) != want {
				t.Errorf("ExprValid of a number with %d and %d is %v", vars, defs, !want)
			}
		}
	}
}

// wrongNodes returns nodes that are no expressions because of their own fields.
func wrongNodes() []impl.Expr {
	one := number(1)
	wrong := []impl.Expr{{}, node(0, 0, one), node(-1, 0), node(11, 0), node(11, 0, one), node(99, 1),
		number(-1), number(1000), number(1 << 40), variable(-1), variable(4), global(-1), global(6), variable(1 << 62),
		node(impl.ExpVar, 0, one), node(impl.ExpNum, 0, one), node(impl.ExpGlobal, 0, one)}
	for op := impl.ExpApp; op <= impl.ExpIf; op++ {
		for many := range 5 {
			e := node(op, 0)
			for range many {
				e.Kids = append(e.Kids, one)
			}
			if many != kidsOf[op] {
				wrong = append(wrong, e)
			} else {
				wrong = append(wrong, node(op, 1, e.Kids...), node(op, -1, e.Kids...))
			}
		}
	}
	return wrong
}

func TestWrongNodes(t *testing.T) {
	for _, w := range wrongNodes() {
		for _, e := range []impl.Expr{w, node(impl.ExpFst, 0, w), node(impl.ExpIf, 0, number(1), variable(0), w)} {
			if impl.ExprValid(e, allVars, allDefs) || impl.FormatExpr(e) != "" {
				t.Errorf("%v is valid, with the text %q", e, impl.FormatExpr(e))
			}
			p := []impl.Def{{Arity: 4, Body: e}}
			if impl.ProgramValid(p) || impl.FormatProgram(p) != "" {
				t.Errorf("a program with %v is valid", e)
			}
			if s, ok := impl.SubstExpr(e, []impl.Expr{number(1)}); ok || !isZero(s) {
				t.Errorf("SubstExpr(%v) = %v, %v", e, s, ok)
			}
			if s, ok := impl.SubstExpr(number(1), []impl.Expr{e}); ok || !isZero(s) {
				t.Errorf("SubstExpr with the argument %v = %v, %v", e, s, ok)
			}
			if size, _ := measure(e); impl.SizeOf(e) != size {
				t.Errorf("SizeOf(%v) = %d", e, impl.SizeOf(e))
			}
			if !impl.ExprSame(e, e) || !impl.ExprSame(e, clone(e)) {
				t.Errorf("%v is not the same as itself", e)
			}
		}
	}
}

// clone returns an equal expression in other memory.
func clone(e impl.Expr) impl.Expr {
	c := node(e.Op, e.N)
	for _, k := range e.Kids {
		c.Kids = append(c.Kids, clone(k))
	}
	return c
}

func TestEmptyKidsAreNone(t *testing.T) {
	e := impl.Expr{Op: impl.ExpNum, N: 5, Kids: []impl.Expr{}}
	if !impl.ExprValid(e, 0, 0) || impl.FormatExpr(e) != "5" || !impl.ExprSame(e, number(5)) || !impl.ExprSame(number(5), e) {
		t.Error("an empty slice is not like nil")
	}
}

func TestExprSame(t *testing.T) {
	texts := []string{"a", "b", "0", "1", "A", "(a b)", "(b a)", "<a,b>", "(a+b)", "(a-b)", "~a", "^a", "[a?b:c]", "[a?b:d]", "[a?c:b]",
		"((a b) c)", "(a (b c))", "((a b) d)", "(a+(b+c))", "(a+(b+d))", "~~a", "~^a"}
	for i, x := range texts {
		for j, y := range texts {
			if got := impl.ExprSame(mustExpr(t, x), mustExpr(t, y)); got != (i == j) {
				t.Errorf("ExprSame(%s, %s) = %v", x, y, got)
			}
		}
	}
	if impl.ExprSame(number(1), number(-1)) || impl.ExprSame(node(50, 1), node(51, 1)) || impl.ExprSame(node(50, 1), node(50, 1, node(50, 1))) {
		t.Error("ExprSame of different invalid expressions")
	}
	x, y := mustExpr(t, "(1 2)"), mustExpr(t, "(1 2)")
	y.N = 1
	if impl.ExprSame(x, y) || impl.ExprSame(chain(1, x), chain(1, y)) {
		t.Error("ExprSame does not compare each N")
	}
}

func TestProgramTexts(t *testing.T) {
	one := number(1)
	cases := map[string][]impl.Def{
		"":       nil,
		"A0=1\n": {{Arity: 0, Body: one}},
		"A4=d\n": {{Arity: 4, Body: variable(3)}},
		"A1=B\nB2=(a b)\n": {
			{Arity: 1, Body: global(1)},
			{Arity: 2, Body: node(impl.ExpApp, 0, variable(0), variable(1))}},
		"A0=F\nB0=1\nC3=1\nD1=A\nE0=1\nF0=F\n": {
			{Body: global(5)}, {Body: one}, {Arity: 3, Body: one}, {Arity: 1, Body: global(0)}, {Body: one}, {Body: global(5)}},
	}
	for text, want := range cases {
		if !impl.ProgramValid(want) || impl.FormatProgram(want) != text {
			t.Errorf("FormatProgram = %q, not %q", impl.FormatProgram(want), text)
		}
		got, ok := impl.ParseProgram(text)
		if !ok || !samePrograms(got, want) {
			t.Errorf("ParseProgram(%q) = %v, %v", text, got, ok)
		}
	}
}

func samePrograms(a []impl.Def, b []impl.Def) bool {
	if len(a) != len(b) {
		return false
	}
	for i := range a {
		if a[i].Arity != b[i].Arity || !equal(a[i].Body, b[i].Body) {
			return false
		}
	}
	return true
}

func TestProgramTextsRefused(t *testing.T) {
	texts := []string{
		"\n", "A", "A1", "A1=", "A1=\n", "A=1\n", "1=1\n", "A0=1", "A0=1\n\n", "\nA0=1\n", "A0=1\r\n", " A0=1\n", "A0 =1\n", "A0= 1\n", "A0=1 \n",
		"a0=1\n", "B0=1\n", "A0=1\nA0=1\n", "A0=1\nC0=1\n", "A0=1\nB0=1", "A0=1;B0=1;", "A0=1\n\nB0=1\n", "B0=1\nA0=1\n",
		"A5=1\n", "A9=1\n", "A-1=1\n", "A01=1\n", "A00=1\n", "A10=1\n", "A+1=a\n", "A١=a\n", "A0=a\n", "A1=b\n", "A3=d\n", "A4=e\n",
		"A0=B\n", "A0=F\n", "A0=G\n", "A0=A\nB0=C\n", "A0=01\n", "A0=1000\n", "A0=(1\n", "A0=1)\n", "A0==1\n", "A0=(1\n+2)\n", "A0=1\nB", "A0=1\x00\n",
		"A0=1\nB0=1\nC0=1\nD0=1\nE0=1\nF0=1\nG0=1\n",
	}
	for _, text := range texts {
		if p, ok := impl.ParseProgram(text); ok || len(p) != 0 {
			t.Errorf("ParseProgram(%q) = %v, %v", text, p, ok)
		}
	}
}

func TestRandomProgramsAreReadBack(t *testing.T) {
	r := rand.New(rand.NewSource(3))
	for range 3000 {
		defs := r.Intn(allDefs + 1)
		var p []impl.Def
		valid := true
		for range defs {
			arity := r.Intn(allVars + 1)
			body := randomExpr(r, arity, defs, 1+r.Intn(5))
			size, _ := measure(body)
			valid = valid && size <= impl.MaxNodes
			p = append(p, impl.Def{Arity: arity, Body: body})
		}
		text := impl.FormatProgram(p)
		if impl.ProgramValid(p) != valid || (text != "") != (valid && defs > 0) {
			t.Fatalf("ProgramValid(%v) = %v", p, !valid)
		}
		if got, ok := impl.ParseProgram(text); valid && (!ok || !samePrograms(got, p)) {
			t.Fatalf("ParseProgram(%q) = %v, %v", text, got, ok)
		}
	}
}

func TestProgramValid(t *testing.T) {
	one := number(1)
	var p []impl.Def
	for many := range 9 {
		if impl.ProgramValid(p) != (many <= allDefs) || many > allDefs && impl.FormatProgram(p) != "" {
			t.Errorf("ProgramValid with %d functions", many)
		}
		p = append(p, impl.Def{Body: one})
	}
	for arity := -2; arity < 8; arity++ {
		p := []impl.Def{{Arity: 1, Body: one}, {Arity: arity, Body: one}}
		want := 0 <= arity && arity <= 4
		if impl.ProgramValid(p) != want || (impl.FormatProgram(p) != "") != want {
			t.Errorf("ProgramValid with the arity %d is %v", arity, !want)
		}
		p[1].Body = variable(2)
		want = arity == 3 || arity == 4
		if impl.ProgramValid(p) != want || (impl.FormatProgram(p) != "") != want {
			t.Errorf("ProgramValid of the third variable with the arity %d is %v", arity, !want)
		}
	}
	if impl.ProgramValid([]impl.Def{{Body: global(1)}}) || !impl.ProgramValid([]impl.Def{{Body: global(1)}, {Body: one}}) {
		t.Error("ProgramValid of a function that is not defined")
	}
}
