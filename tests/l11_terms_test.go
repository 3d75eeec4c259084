package tests

import (
	"math/rand"
	"slices"
	"testing"

	"loop.example/graphreducer/impl"
)

// checkTerm checks all functions of terms for a term that is not too large, and
// returns whether it is valid.
func checkTerm(t *testing.T, x impl.Term) bool {
	t.Helper()
	if got, want := impl.FreeVars(x), freeBy(x); !slices.Equal(got, want) {
		t.Fatalf("FreeVars(%v) = %v, not %v", x, got, want)
	}
	if got, want := impl.LamCount(x), sizeOfTerm(x).lams; got != want {
		t.Fatalf("LamCount(%v) = %d, not %d", x, got, want)
	}
	if !termValidBy(x) {
		checkNoTerm(t, x)
		return false
	}
	text := termTextBy(x)
	if !impl.TermValid(x) || impl.FormatTerm(x) != text {
		t.Fatalf("%v is valid: %v, with the text %q", x, impl.TermValid(x), impl.FormatTerm(x))
	}
	if got, ok := impl.ParseTerm(text); !ok || !equalTerms(got, x) {
		t.Fatalf("ParseTerm(%q) = %v, %v", text, got, ok)
	}
	return true
}

// checkNoTerm checks that a term is not taken as valid.
func checkNoTerm(t *testing.T, x impl.Term) {
	t.Helper()
	if impl.TermValid(x) || impl.FormatTerm(x) != "" {
		t.Fatalf("%v is valid, with the text %q", x, impl.FormatTerm(x))
	}
	if p, e, ok := impl.LiftTerm(x); ok || len(p) != 0 || !isZero(e) {
		t.Fatalf("LiftTerm of a term that is not valid = %v, %v, %v", p, e, ok)
	}
	if n, code := impl.NumberTerm(x, 50); n != 0 || code != impl.EvalInvalid {
		t.Fatalf("NumberTerm of a term that is not valid = %d, %d", n, code)
	}
}

func TestTermTexts(t *testing.T) {
	for text, x := range map[string]impl.Term{
		"0": numeral(0), "7": numeral(7), "10": numeral(10), "999": numeral(999),
		".#0":                  lam(bound(0)),
		".1":                   lam(numeral(1)),
		"(1 2)":                applyTerm(numeral(1), numeral(2)),
		"(1+2)":                addTerms(numeral(1), numeral(2)),
		"..#1":                 lam(lam(bound(1))),
		".....#4":              lamsOver(5, bound(4)),
		"(.#0 .1)":             applyTerm(lam(bound(0)), lam(numeral(1))),
		".(#0 1)":              lam(applyTerm(bound(0), numeral(1))),
		"(.#0 1)":              applyTerm(lam(bound(0)), numeral(1)),
		"((1+2) (3 4))":        applyTerm(addTerms(numeral(1), numeral(2)), applyTerm(numeral(3), numeral(4))),
		"((..(#0+#1) 1) 2)":    applyTerm(applyTerm(lamsOver(2, addTerms(bound(0), bound(1))), numeral(1)), numeral(2)),
		"(.(#0 #0)+..(#1 #0))": addTerms(lam(applyTerm(bound(0), bound(0))), lamsOver(2, applyTerm(bound(1), bound(0)))),
	} {
		if got := impl.FormatTerm(x); got != text {
			t.Errorf("FormatTerm = %q, not %q", got, text)
		}
		if got, ok := impl.ParseTerm(text); !ok || !equalTerms(got, x) {
			t.Errorf("ParseTerm(%q) = %v, %v", text, got, ok)
		}
		checkTerm(t, x)
	}
}

func TestBoundVariables(t *testing.T) {
	for lams := range 8 {
		for n := -2; n < 9; n++ {
			want := lams <= impl.MaxLams && 0 <= n && n < lams
			for _, x := range []impl.Term{lamsOver(lams, bound(n)), lamsOver(lams, applyTerm(numeral(1), bound(n))), addTerms(lamsOver(lams, bound(n)), numeral(2))} {
				if checkTerm(t, x) != want {
					t.Errorf("%s is valid: %v", termTextBy(x), !want)
				}
			}
		}
	}
	// An abstraction beside a variable does not bind it, whether it is before or behind it.
	for _, x := range []impl.Term{addTerms(lam(numeral(1)), bound(0)), addTerms(bound(0), lam(numeral(1))), lam(applyTerm(lam(numeral(1)), bound(1))), lam(applyTerm(bound(1), lam(bound(1))))} {
		if checkTerm(t, x) {
			t.Errorf("%s is valid", termTextBy(x))
		}
	}
}

func TestTermLimits(t *testing.T) {
	for many := 15; many < 26; many++ {
		for lams := range 7 {
			x := lamsOver(lams, sumTree(many, numeral(5)))
			if want := 2*many-1+lams <= 40 && lams <= 5; checkTerm(t, x) != want {
				t.Errorf("a term of %d nodes with %d abstractions is valid: %v", 2*many-1+lams, lams, !want)
			}
		}
	}
	for many := 8; many < 16; many++ {
		x, y := numeral(1), lamsOver(5, bound(4))
		for range many {
			x, y = addTerms(numeral(1), x), applyTerm(y, numeral(2))
		}
		if want := many+1 <= 12; checkTerm(t, x) != want {
			t.Errorf("a term of the depth %d is valid: %v", many+1, !want)
		}
		if want := many+6 <= 12; checkTerm(t, y) != want {
			t.Errorf("a term of the depth %d is valid: %v", many+6, !want)
		}
	}
	// Abstractions count wherever they are.
	x := lam(numeral(1))
	for many := 1; many < 9; many++ {
		if want := many <= 5; checkTerm(t, x) != want || impl.LamCount(x) != many {
			t.Errorf("a term with %d abstractions is valid: %v", many, !want)
		}
		x = addTerms(x, lam(numeral(1)))
	}
}

// wrongTerms returns nodes that are no terms because of their own fields.
func wrongTerms() []impl.Term {
	one := numeral(1)
	wrong := []impl.Term{{}, termNode(0, 0, one), termNode(-1, 0), termNode(6, 0), termNode(6, 0, one, one), termNode(1<<62, 1),
		numeral(-1), numeral(1000), numeral(1 << 62), numeral(-1 << 63), bound(-1), bound(-1 << 63), bound(1<<63 - 1),
		termNode(impl.TermVar, 0, one), termNode(impl.TermNum, 0, one)}
	for op := impl.TermLam; op <= impl.TermAdd; op++ {
		for many := range 5 {
			x := termNode(op, 0)
			for range many {
				x.Kids = append(x.Kids, one)
			}
			if many != termKids[op] {
				wrong = append(wrong, x)
			} else {
				wrong = append(wrong, termNode(op, 1, x.Kids...), termNode(op, -1, x.Kids...))
			}
		}
	}
	return wrong
}

func TestWrongTerms(t *testing.T) {
	for _, w := range wrongTerms() {
		for _, x := range []impl.Term{w, lam(w), applyTerm(w, numeral(1)), addTerms(numeral(1), w), applyTerm(lam(lam(w)), numeral(2))} {
			if checkTerm(t, x) {
				t.Errorf("%v is valid", x)
			}
		}
	}
}

func TestEmptyKidsOfTerms(t *testing.T) {
	x := impl.Term{Op: impl.TermNum, N: 5, Kids: []impl.Term{}}
	y := lam(impl.Term{Op: impl.TermVar, Kids: []impl.Term{}})
	if impl.FormatTerm(x) != "5" || impl.FormatTerm(y) != ".#0" || !impl.TermValid(applyTerm(y, x)) {
		t.Error("an empty slice is not like nil")
	}
}

func TestFreeVars(t *testing.T) {
	for _, c := range []struct {
		x    impl.Term
		want []int
	}{
		{numeral(3), nil}, {bound(0), []int{0}}, {bound(4), []int{4}}, {bound(5), nil}, {bound(-1), nil}, {bound(1<<63 - 1), nil}, {bound(-1 << 63), nil},
		{lam(bound(0)), nil}, {lam(bound(1)), []int{0}}, {lam(bound(5)), []int{4}}, {lam(bound(6)), nil}, {lam(lam(bound(1))), nil}, {lamsOver(2, bound(5)), []int{3}},
		{addTerms(bound(3), bound(1)), []int{1, 3}}, {applyTerm(bound(2), bound(2)), []int{2}},
		// The same variable has other numbers in other abstractions.
		{applyTerm(bound(1), lam(applyTerm(bound(2), lam(bound(3))))), []int{1}},
		{applyTerm(lam(bound(2)), lamsOver(2, bound(2))), []int{0, 1}},
		{lam(addTerms(addTerms(bound(5), bound(4)), addTerms(bound(3), addTerms(bound(2), addTerms(bound(1), bound(0)))))), []int{0, 1, 2, 3, 4}},
		// Terms that are not valid have parts, too.
		{termNode(impl.TermVar, 2, bound(0), lam(bound(4))), []int{0, 2, 3}},
		{termNode(impl.TermNum, 1, bound(1)), []int{1}},
		{termNode(impl.TermLam, 7, bound(1), bound(3), bound(0)), []int{0, 2}},
		{termNode(99, 3, lam(lam(bound(6))), bound(0), termNode(0, 2)), []int{0, 4}},
		{termNode(impl.TermLam, 0), nil},
	} {
		if got := impl.FreeVars(c.x); !slices.Equal(got, c.want) {
			t.Errorf("FreeVars(%v) = %v, not %v", c.x, got, c.want)
		}
		checkTerm(t, c.x)
	}
}

// randomNodes returns a tree of any nodes.
func randomNodes(r *rand.Rand, depth int) impl.Term {
	x := termNode([...]int{-1, 0, 1, 1, 1, 1, 2, 3, 3, 3, 4, 5, 6}[r.Intn(13)], r.Intn(9)-1)
	if depth > 1 {
		for range r.Intn(4) {
			x.Kids = append(x.Kids, randomNodes(r, depth-1))
		}
	}
	return x
}

func TestRandomTerms(t *testing.T) {
	r := rand.New(rand.NewSource(111))
	valid, wrong := 0, 0
	for i := range 12000 {
		x := randomTerm(r, r.Intn(4)/3, 1+i%9)
		switch i % 3 {
		case 1:
			x = randomNodes(r, 1+i%6)
		case 2:
			x = randomClosedTerm(r)
		}
		if sizeOfTerm(x).nodes > 2000 {
			continue
		}
		if checkTerm(t, x) {
			valid++
		} else {
			wrong++
		}
	}
	if valid < 3000 || wrong < 3000 {
		t.Errorf("%d terms are valid, and %d are not", valid, wrong)
	}
}

// partsTerm returns a term whose parts are known by their places: each has the
// kind, the number and the parts that are given for its place.
func partsTerm(ops []int, ns []int, kids [][]int) impl.Term {
	parts := make([]impl.Term, len(ops))
	for i := range parts {
		parts[i] = termNode(ops[i], ns[i], make([]impl.Term, len(kids[i]))...)
	}
	for i := range parts {
		for j, k := range kids[i] {
			parts[i].Kids[j] = parts[k]
		}
	}
	return parts[0]
}

// freeOfParts returns what FreeVars returns for such a term, by the parts that
// are in each number of abstractions, one after the other.
func freeOfParts(ops []int, ns []int, kids [][]int, most int) []int {
	var free [impl.MaxLams]bool
	now := make([]bool, len(ops))
	now[0] = true
	for lams := range most + 1 {
		next := make([]bool, len(ops))
		for range ops {
			for i := range ops {
				for _, k := range kids[i] {
					if now[i] && ops[i] != impl.TermLam {
						now[k] = true
					} else if now[i] {
						next[k] = true
					}
				}
			}
		}
		for i, isIn := range now {
			if v := ns[i] - lams; isIn && ops[i] == impl.TermVar && 0 <= v && v < len(free) {
				free[v] = true
			}
		}
		now = next
	}
	var list []int
	for v, isFree := range free {
		if isFree {
			list = append(list, v)
		}
	}
	return list
}

// TestFreeVarsOfSharedParts is about terms that share parts or contain themselves.
func TestFreeVarsOfSharedParts(t *testing.T) {
	const most = 60
	r := rand.New(rand.NewSource(112))
	var counts [impl.MaxLams + 1]int
	for range 20000 {
		many := 1 + r.Intn(12)
		ops, ns, kids := make([]int, many), make([]int, many), make([][]int, many)
		for i := range ops {
			ops[i] = [...]int{impl.TermVar, impl.TermLam, impl.TermLam, impl.TermApp}[r.Intn(4)]
			ns[i] = r.Intn(1 + r.Intn(most))
			if ops[i] == impl.TermVar && r.Intn(4) > 0 {
				continue
			}
			for range 1 + r.Intn(3)/2 {
				kids[i] = append(kids[i], r.Intn(many))
			}
		}
		got, want := impl.FreeVars(partsTerm(ops, ns, kids)), freeOfParts(ops, ns, kids, most)
		if !slices.Equal(got, want) {
			t.Fatalf("FreeVars of the kinds %v, numbers %v and parts %v = %v, not %v", ops, ns, kids, got, want)
		}
		counts[len(want)]++
	}
	for many, seen := range counts {
		if seen < 100 {
			t.Errorf("%d terms have %d variables", seen, many)
		}
	}
}

func TestTermsWithoutEnd(t *testing.T) {
	// A circle of abstractions, with a variable in the first one.
	for lams := 1; lams < 9; lams++ {
		for _, n := range []int{0, 1, 2, 3, 7, 100, 1<<63 - 1, -1, -1 << 63} {
			ops := append([]int{impl.TermLam, impl.TermApp, impl.TermVar}, slices.Repeat([]int{impl.TermLam}, lams-1)...)
			ns := make([]int, len(ops))
			ns[2] = n
			kids := [][]int{{1}, {2, 3 % len(ops)}, nil}
			for i := 3; i < len(ops); i++ {
				kids = append(kids, []int{(i + 1) % len(ops)})
			}
			var want []int
			for v := range impl.MaxLams {
				if away := n - 1 - v; n > 0 && away >= 0 && away%lams == 0 {
					want = append(want, v)
				}
			}
			x := partsTerm(ops, ns, kids)
			if got := impl.FreeVars(x); !slices.Equal(got, want) {
				t.Errorf("FreeVars of a circle of %d with %d = %v, not %v", lams, n, got, want)
			}
			if got := impl.LamCount(x); got != 0 {
				t.Errorf("LamCount of a term that contains itself = %d", got)
			}
			checkNoTerm(t, x)
		}
	}
	for op := range 7 {
		kids := make([]impl.Term, 2)
		kids[0] = termNode(op, 0, kids...)
		kids[1] = bound(2)
		x := applyTerm(kids[0], numeral(1))
		want := []int{2}
		if op == impl.TermLam {
			want = []int{0, 1}
		} else if op == impl.TermVar {
			want = []int{0, 2}
		}
		if got := impl.FreeVars(x); !slices.Equal(got, want) {
			t.Errorf("FreeVars of a term of the kind %d that contains itself = %v", op, got)
		}
		if got := impl.LamCount(x); got != 0 {
			t.Errorf("LamCount of a term of the kind %d that contains itself = %d", op, got)
		}
		checkNoTerm(t, x)
	}
}

func TestHugeTerms(t *testing.T) {
	const many = 300000
	deep, other, wide := bound(many+3), bound(3), termNode(impl.TermApp, 0, make([]impl.Term, many)...)
	for range many {
		deep, other = lam(deep), addTerms(numeral(1), other)
	}
	wide.Kids[many-1] = lam(bound(4))
	shared, both := lam(bound(1)), bound(9)
	for range 61 {
		shared, both = applyTerm(shared, shared), applyTerm(both, lam(both))
	}
	for i, c := range []struct {
		x    impl.Term
		lams int
		free []int
	}{
		{deep, many, []int{3}}, {other, 0, []int{3}}, {wide, 1, []int{3}}, {shared, 1 << 61, []int{0}}, {both, 1<<61 - 1, []int{0, 1, 2, 3, 4}},
		{addTerms(deep, addTerms(other, wide)), many + 1, []int{3}},
		// There is no number that is great enough.
		{applyTerm(applyTerm(shared, shared), applyTerm(shared, shared)), 0, []int{0}},
	} {
		if got := impl.LamCount(c.x); got != c.lams {
			t.Errorf("LamCount of the huge term %d = %d", i, got)
		}
		if got := impl.FreeVars(c.x); !slices.Equal(got, c.free) {
			t.Errorf("FreeVars of the huge term %d = %v", i, got)
		}
		if impl.TermValid(c.x) || impl.FormatTerm(c.x) != "" {
			t.Errorf("the huge term %d is valid", i)
		}
		if p, e, ok := impl.LiftTerm(c.x); ok || len(p) != 0 || !isZero(e) {
			t.Errorf("the huge term %d is lifted", i)
		}
		if n, code := impl.NumberTerm(c.x, 5); n != 0 || code != impl.EvalInvalid {
			t.Errorf("NumberTerm of the huge term %d = %d, %d", i, n, code)
		}
	}
}

func TestTermsShareNoMemory(t *testing.T) {
	const text = "(.(#0+#0) (..(#1 3) 4))"
	first, second := mustTerm(t, text), mustTerm(t, text)
	spoilTerm(first.Kids[0])
	if termTextBy(first.Kids[1]) != "(..(#1 3) 4)" {
		t.Error("two parts of a result of ParseTerm share memory")
	}
	spoilTerm(first)
	if impl.FormatTerm(second) != text {
		t.Error("two results of ParseTerm share memory")
	}
	x := lamsOver(2, addTerms(bound(2), bound(4)))
	free, again := impl.FreeVars(x), impl.FreeVars(x)
	spoilInts(free)
	if !slices.Equal(again, []int{0, 2}) {
		t.Error("two results of FreeVars share memory")
	}
	room := append(mustTerm(t, "(1 .2)").Kids, numeral(33))
	given := impl.Term{Op: impl.TermApp, Kids: room[:2]}
	impl.TermValid(given)
	impl.FormatTerm(given)
	impl.FreeVars(given)
	impl.LamCount(given)
	if impl.FormatTerm(given) != "(1 .2)" || !equalTerms(room[2], numeral(33)) {
		t.Error("an argument changes, or memory behind it")
	}
}
