package tests

import (
	"math/rand"
	"regexp"
	"strconv"
	"strings"
	"testing"

	"loop.example/graphreducer/impl"
)

var (
	termLeaves = regexp.MustCompile(`#?[0-9]+`)
	termLam    = regexp.MustCompile(`\.\{(\d+)\}`)
	termOfTwo  = regexp.MustCompile(`\(\{(\d+)\}[ +]\{(\d+)\}\)`)
)

// leafMark returns `{`, how many abstractions must be around a leaf, and `}`.
func leafMark(text string) string {
	digits, isVar := strings.CutPrefix(text, "#")
	if !goodNumber.MatchString(digits) {
		return text
	}
	if !isVar {
		return "{0}"
	}
	n, _ := strconv.Atoi(digits)
	return "{" + strconv.Itoa(n+1) + "}"
}

// isTermText decides by rewriting whether a text with a small depth is that of a
// term: each part becomes `{`, how many abstractions must be around it, and `}`.
func isTermText(text string) bool {
	dots := strings.Count(text, ".")
	nodes := len(termLeaves.FindAllString(text, -1)) + dots + strings.Count(text, " ") + strings.Count(text, "+")
	if strings.ContainsAny(text, "{}") || dots > impl.MaxLams || nodes > termNodes {
		return false
	}
	text = termLeaves.ReplaceAllStringFunc(text, leafMark)
	for before := ""; before != text; {
		before = text
		text = termLam.ReplaceAllStringFunc(text, func(part string) string {
			n, _ := strconv.Atoi(termLam.FindStringSubmatch(part)[1])
			return "{" + strconv.Itoa(max(n-1, 0)) + "}"
		})
		text = termOfTwo.ReplaceAllStringFunc(text, func(part string) string {
			both := termOfTwo.FindStringSubmatch(part)
			a, _ := strconv.Atoi(both[1])
			b, _ := strconv.Atoi(both[2])
			return "{" + strconv.Itoa(max(a, b)) + "}"
		})
	}
	return text == "{0}"
}

// checkTermText checks that exactly the texts of terms are parsed, and read back.
func checkTermText(t *testing.T, text string, want bool) {
	t.Helper()
	x, ok := impl.ParseTerm(text)
	if ok != want || !ok && !isNoTerm(x) {
		t.Fatalf("ParseTerm(%q) = %v, %v", text, x, ok)
	}
	if ok && (impl.FormatTerm(x) != text || termTextBy(x) != text || !termValidBy(x)) {
		t.Fatalf("ParseTerm(%q) = %v", text, x)
	}
}

func TestTermTextsRefused(t *testing.T) {
	for _, text := range []string{
		"", " ", "\n", "\x00", "\xff", "é", "a", "A", "x", ".", "..", "#", "##0", "()", "(", ")", "(1", "1)", "+", "-",
		// There is one text for each number.
		"00", "01", "007", "0999", "-0", "-1", "+1", "1000", "9999", "1.0", "1_0", "1e1", "١", "１", "18446744073709551617",
		".#00", ".#01", ".#-0", ".#+0", ".#", ".# 0", ".#a", ".#a0", ".#18446744073709551616", ".0#0", "..#01",
		// No variable is free.
		"#0", ".#1", ".#5", "..#2", "...#3", "....#4", ".....#5", "(.#0 #0)", "(#0 .#0)", ".(.#0 #1)", ".(.#2 #0)", ".#9", ".#10", ".#999", ".#1000",
		// There is nothing but the marks.
		" 1", "1 ", "\t1", "1\n", "1\x00", ". 1", ".1 ", " .1", "(1  2)", "( 1 2)", "(1 2 )", "(1 2) ", "(1\t2)", "(1\n2)", "(1 +2)", "(1+ 2)", "(1 + 2)",
		"(1)", "((1 2))", "(1 2", "1 2", "1+2", "1 2)", "(1 2 3)", "(1+2+3)", "(1+2 3)", "(1,2)", "(1-2)", "(12)", "(1++2)", "(+2)", "(1+)", "( 2)", "(1 )",
		"[1 2]", "(1 2]", ".(1 2", "(.1 2.)", "(1.2)", "(1#0)", ".(#0#0)", ".(#0.1)", "(1 2)3", "3(1 2)", "(1 2)(3 4)", "11 1", ".#0.#0", "\\0", "λ#0",
		// There are too many abstractions.
		"......1", "......#5", "((..1 ..2) ..3)", "(.....1 .1)", ".(.....1 1)",
	} {
		checkTermText(t, text, false)
		if isTermText(text) {
			t.Errorf("isTermText(%q) is true", text)
		}
	}
}

func TestTermTextsOfNumbers(t *testing.T) {
	for n := -20; n < 1100; n++ {
		text := strconv.Itoa(n)
		checkTermText(t, text, 0 <= n && n <= impl.MaxNumber)
		checkTermText(t, "(.#0+"+text+")", 0 <= n && n <= impl.MaxNumber)
		for lams := range 7 {
			checkTermText(t, strings.Repeat(".", lams)+"#"+text, 0 <= n && n < lams && lams <= impl.MaxLams)
		}
	}
}

// TestShortTermTexts checks all short texts of some bytes.
func TestShortTermTexts(t *testing.T) {
	const alphabet = "#.( )+012"
	valid := map[string]bool{}
	level := []string{""}
	for range 6 {
		var next []string
		for _, text := range level {
			for _, c := range alphabet {
				next = append(next, text+string(c))
			}
		}
		level = next
		for _, text := range level {
			want := isTermText(text)
			if want {
				valid[text] = true
			}
			checkTermText(t, text, want)
		}
	}
	if !valid["(0 .1)"] || !valid["...#2"] || !valid["(1+22)"] || valid["..#2"] || len(valid) < 250 {
		t.Errorf("isTermText is wrong, with %d texts", len(valid))
	}
}

func TestChangedTermTexts(t *testing.T) {
	const alphabet = "###...(( ++))0123459a-\n\x00\xc3"
	r := rand.New(rand.NewSource(113))
	accepted := 0
	for range 3000 {
		x := randomTerm(r, 0, 1+r.Intn(6))
		if !termValidBy(x) {
			continue
		}
		text := termTextBy(x)
		checkTermText(t, text, true)
		for range 20 {
			changed := changedText(r, text, alphabet)
			want := isTermText(changed)
			if want && changed != text {
				accepted++
			}
			checkTermText(t, changed, want)
		}
	}
	if accepted < 2000 {
		t.Errorf("%d changed texts are those of terms", accepted)
	}
}

func TestTermTextsOfLimits(t *testing.T) {
	for many := 15; many < 26; many++ {
		for lams := range 7 {
			x := lamsOver(lams, sumTree(many, numeral(5)))
			checkTermText(t, termTextBy(x), 2*many-1+lams <= 40 && lams <= 5)
		}
	}
	x := numeral(1)
	for depth := 1; depth < 16; depth++ {
		checkTermText(t, termTextBy(x), depth <= 12)
		x = addTerms(numeral(depth), x)
	}
}

func TestLongTermTexts(t *testing.T) {
	for _, part := range []string{"(", ")", ".", "#", "#0", ".#0", "1", "0", " ", "+", "(1 ", "(1+", ".(", "((", "(.", "\n", "\x00"} {
		text := strings.Repeat(part, 1000000)
		for _, long := range []string{text, "." + text, "(" + text, "(1 " + text, ".#" + text, ".#0" + text, "1" + text} {
			checkTermText(t, long, false)
		}
	}
}
