package tests

import (
	"math/rand"
	"regexp"
	"strings"
	"testing"

	"loop.example/graphreducer/impl"
)

var (
	goodLeaf  = regexp.MustCompile(`^(arg[0-3]|num(0|[1-9][0-9]{0,2})|fun[0-5])$`)
	goodInner = regexp.MustCompile(`^(app|pair|fst|snd|add|sub|if)$`)
	goodCall  = regexp.MustCompile(`# (fst|snd)|# # (app|pair|add|sub)|# # # if`)
)

// isCodeText decides by rewriting whether a text with few words is that of code.
func isCodeText(text string) bool {
	words := strings.Split(text, " ")
	for i, word := range words {
		if goodLeaf.MatchString(word) {
			words[i] = "#"
		} else if !goodInner.MatchString(word) {
			return false
		}
	}
	return isRewritten(strings.Join(words, " "), goodCall)
}

// checkCodeText checks that exactly the texts of code are parsed, and read back.
func checkCodeText(t *testing.T, text string, want bool) {
	t.Helper()
	list, ok := impl.ParseCode(text)
	if ok != want || !ok && len(list) != 0 {
		t.Fatalf("ParseCode(%q) = %v, %v", text, list, ok)
	}
	if got := impl.FormatCode(list); ok && got != text {
		t.Fatalf("FormatCode of ParseCode(%q) = %q", text, got)
	}
}

func TestCodeTextsRefused(t *testing.T) {
	for _, text := range []string{
		"", " ", "  ", "\n", "\x00", "\xff", "é", "1", "a", "A", "a1", "(1+2)", "x", "nu", "numb", "NUM1", "Num1", "num1x", "xnum1", "mun1",
		// Each instruction has one text.
		"num", "arg", "fun", "num 1", "num  1", "num01", "num00", "num001", "num0999", "arg00", "arg01", "fun00", "fun05", "num-1", "num-0", "num+1", "arg-0", "fun+1",
		"num1.0", "num1_0", "num0x1", "num1e1", "num１", "num٣", "numa", "funA", "arga", "num#1", "num1000", "num9999", "arg4", "fun6", "arg10", "fun10",
		"num9223372036854775807", "num9223372036854775808", "num18446744073709551616", "num18446744073709551617", "num99999999999999999999999999", "arg18446744073709551616",
		"num1 num2 app0", "num1 num2 add1", "num1 fst0", "num1 fst-0", "num1 num2 num3 if0", "num1 snd ", "num1 fst1", "num1 num2 pair00",
		// There is one space between two of them, and nothing else.
		"num1 ", " num1", "num1  fst", "num1 fst ", " num1 fst", "num1 fst  ", "num1\tfst", "num1\nfst", "num1\n", "num1 fst\n", "\nnum1", "num1\r", "num1,fst", "num1fst", "num1;fst",
		"num1\u00a0fst", "num1 num2add", "num1num2 add", "num1 \x00 fst", "num1\x00", "num1 f st", "num1 fs t", "arg0 arg0 pairs",
		// There is no such instruction.
		"ind", "ind0", "num1 ind", "num1 ind0", "num1 var", "var0", "num1 mul", "num1 num2 +", "0 num1", "num1 0", "num1 fst 0", "num1 end", "ifif", "num1 fstfst",
		// Elements are left or missing.
		"app", "fst", "if", "num1 num2", "num1 add", "num1 num2 if", "num1 num2 fst", "add num1 num2", "num1 num2 add add", "num1 app num2 num3",
	} {
		checkCodeText(t, text, false)
		if isCodeText(text) {
			t.Errorf("isCodeText(%q) is true", text)
		}
	}
	for _, text := range wrongCode {
		checkCodeText(t, text, false)
	}
}

func TestCodeTextsOfNumbers(t *testing.T) {
	for n := -20; n < 1100; n++ {
		for _, word := range []string{"arg", "num", "fun"} {
			list := []impl.Code{instruction(opOfWord[word], n)}
			if word == "arg" {
				list[0].Op = impl.ExpVar
			}
			most := map[string]int{"arg": impl.MaxArity - 1, "num": impl.MaxNumber, "fun": impl.MaxDefs - 1}[word]
			want := 0 <= n && n <= most
			text := textBy(list)
			checkCodeText(t, text, want)
			if got := impl.FormatCode(list); want && got != text || !want && got != "" {
				t.Errorf("FormatCode(%v) = %q", list, got)
			}
		}
	}
}

// TestShortCodeTexts checks all texts of a few pieces.
func TestShortCodeTexts(t *testing.T) {
	pieces := []string{"arg", "num", "fun", "fst", "add", "if", "ind", " ", "0", "1", "6", "-", "+", "num1 ", " app"}
	var places []int
	for at := range pieces {
		places = append(places, at)
	}
	valid := 0
	listsOf(5, places, func(picks []int) {
		text := ""
		for _, at := range picks {
			text += pieces[at]
		}
		want := isCodeText(text)
		if want {
			valid++
		}
		checkCodeText(t, text, want)
	})
	if valid < 50 {
		t.Errorf("%d short texts are those of code", valid)
	}
}

func TestChangedCodeTexts(t *testing.T) {
	const alphabet = "adfgimnprstu01569 -+\n\x00"
	r := rand.New(rand.NewSource(82))
	accepted := 0
	for range 2500 {
		text := textBy(codeBy(randomExpr(r, allVars, allDefs, 1+r.Intn(4))))
		checkCodeText(t, text, true)
		for range 20 {
			changed := changedText(r, text, alphabet)
			want := isCodeText(changed)
			if want && changed != text {
				accepted++
			}
			checkCodeText(t, changed, want)
		}
	}
	if accepted < 1000 {
		t.Errorf("%d changed texts are those of code", accepted)
	}
}

func TestLongCodeTexts(t *testing.T) {
	for _, size := range []int{59, 60, 61, 62} {
		checkCodeText(t, textBy(codeBy(sized(size))), size <= impl.MaxNodes)
	}
	for many := 13; many < 19; many++ {
		checkCodeText(t, "fun0"+strings.Repeat(" snd", many), many < impl.MaxDepth)
	}
	for _, part := range []string{" ", "num1 ", " num1", "num1", "1", "0", "fst ", " fst", "num", "-", "\n", "\x00"} {
		text := strings.Repeat(part, 1000000)
		checkCodeText(t, text, false)
		checkCodeText(t, "num"+text, false)
		checkCodeText(t, "num1 fst"+text, false)
	}
}
