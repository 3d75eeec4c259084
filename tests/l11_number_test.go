package tests

import (
	"math/rand"
	"slices"
	"testing"

	"loop.example/graphreducer/impl"
)

// omega has no value, and takes one unit of fuel again and again.
const omega = "(.(#0 #0) .(#0 #0))"

func TestNumberTerm(t *testing.T) {
	for _, c := range []struct {
		text          string
		fuel, n, code int
	}{
		{"0", 0, 0, impl.EvalDone}, {"999", 0, 999, impl.EvalDone}, {"(1+2)", 0, 3, impl.EvalDone}, {"((1+2)+(3+4))", 0, 10, impl.EvalDone},
		{"(999+1)", 0, 0, impl.EvalDone}, {"(999+999)", 0, 998, impl.EvalDone}, {"(500+499)", 0, 999, impl.EvalDone}, {"((999+999)+(999+999))", 0, 996, impl.EvalDone},
		{"(.#0 3)", 1, 3, impl.EvalDone}, {"(.(#0+#0) 3)", 1, 6, impl.EvalDone}, {"((..(#0+#1) 1) 2)", 2, 3, impl.EvalDone},
		// The first argument is that of the outer abstraction.
		{"((..#1 4) 5)", 2, 4, impl.EvalDone}, {"((..#0 4) 5)", 2, 5, impl.EvalDone}, {"(((...(#2 (#1 #0)) .(#0+1)) .(#0+#0)) 3)", 5, 7, impl.EvalDone},
		{"(((...(#1 (#2 #0)) .(#0+1)) .(#0+#0)) 3)", 6, 8, impl.EvalDone},
		// A variable is replaced in all abstractions of the body, and no other one is.
		{"(.(.(#0+#1) 1) 2)", 2, 3, impl.EvalDone}, {"(.(.(.(#0+(#1+#2)) 1) 20) 300)", 3, 321, impl.EvalDone}, {"((.(.#0 .#1) 7) 8)", 3, 7, impl.EvalDone},
		{"(.((.#0 1)+#0) 20)", 2, 21, impl.EvalDone}, {"(.((.#1 1)+#0) 20)", 2, 40, impl.EvalDone}, {"(.(#0+(.#0 1)) 20)", 2, 21, impl.EvalDone},
		// An abstraction as an argument, with variables that are bound outside.
		{"(.(#0 (#0 2)) .(#0+1))", 3, 4, impl.EvalDone}, {"(.(.(#0 5) .(#0+#1)) 30)", 3, 35, impl.EvalDone}, {"((.(#0 .#0) .#0) 6)", 3, 6, impl.EvalDone},
		{"(.(.(.(#1 (#1 #0)) 4) .(#0+#1)) 30)", 5, 64, impl.EvalDone},
		// An argument that is not used is not evaluated; one that is used twice is, twice.
		{"(.1 " + omega + ")", 1, 1, impl.EvalDone}, {"(.1 (2 3))", 1, 1, impl.EvalDone}, {"((..#1 5) " + omega + ")", 2, 5, impl.EvalDone},
		{"(.(#0+#0) (.#0 4))", 3, 8, impl.EvalDone}, {"(.(#0+#0) (.#0 4))", 2, 0, impl.EvalFuel}, {"(.(.(#0+#0) #0) (.(#0+1) 4))", 4, 10, impl.EvalDone},
		// No fuel is left.
		{"(.#0 3)", 0, 0, impl.EvalFuel}, {"((..(#0+#1) 1) 2)", 1, 0, impl.EvalFuel}, {"((..(#0+#1) 1) 2)", 0, 0, impl.EvalFuel}, {omega, 0, 0, impl.EvalFuel},
		{omega, 100, 0, impl.EvalFuel}, {"(.1 " + omega + ")", 0, 0, impl.EvalFuel}, {"(" + omega + "+(1 2))", 9, 0, impl.EvalFuel}, {"(" + omega + " (1 2))", 9, 0, impl.EvalFuel},
		// A value is of another kind.
		{".#0", 5, 0, impl.EvalStuck}, {".1", 0, 0, impl.EvalStuck}, {"(3 4)", 5, 0, impl.EvalStuck}, {"(3 4)", 0, 0, impl.EvalStuck}, {"(..#1 4)", 1, 0, impl.EvalStuck},
		{"(.#0+1)", 0, 0, impl.EvalStuck}, {"(1+.#0)", 0, 0, impl.EvalStuck}, {"((1+2) 3)", 0, 0, impl.EvalStuck}, {"(.(#0 1) 2)", 1, 0, impl.EvalStuck}, {"((.1 2) 3)", 1, 0, impl.EvalStuck},
		{"((.1 2) 3)", 0, 0, impl.EvalFuel}, {"(.(#0+1) .1)", 1, 0, impl.EvalStuck},
		// The first one must have its number before the second one is evaluated.
		{"(.#0+" + omega + ")", 0, 0, impl.EvalStuck}, {"((1 2)+" + omega + ")", 0, 0, impl.EvalStuck}, {"(3 " + omega + ")", 0, 0, impl.EvalStuck}, {"((.#0 .1)+" + omega + ")", 1, 0, impl.EvalStuck},
		{"(1+" + omega + ")", 3, 0, impl.EvalFuel}, {"((.#0 1)+.#0)", 0, 0, impl.EvalFuel}, {"((.#0 1)+.#0)", 1, 0, impl.EvalStuck}, {"(.#0+(.#0 1))", 0, 0, impl.EvalStuck},
	} {
		if n, code := impl.NumberTerm(mustTerm(t, c.text), c.fuel); n != c.n || code != c.code {
			t.Errorf("NumberTerm(%s, %d) = %d, %d", c.text, c.fuel, n, code)
		}
		checkNumberTerm(t, mustTerm(t, c.text), c.fuel)
	}
}

func TestFuelOfTerms(t *testing.T) {
	x := mustTerm(t, "(.(#0+#0) (.#0 4))")
	for _, fuel := range []int{-1, -2, 101, 102, 300, 1 << 62, -1 << 63} {
		for _, x := range []impl.Term{x, numeral(5), lam(numeral(5)), mustTerm(t, "(1 2)")} {
			if n, code := impl.NumberTerm(x, fuel); n != 0 || code != impl.EvalInvalid {
				t.Errorf("NumberTerm with the fuel %d = %d, %d", fuel, n, code)
			}
		}
	}
	for fuel := range termFuel + 1 {
		want := impl.EvalDone
		if fuel < 3 {
			want = impl.EvalFuel
		}
		if _, code := impl.NumberTerm(x, fuel); code != want {
			t.Errorf("NumberTerm with the fuel %d has the code %d", fuel, code)
		}
		checkNumberTerm(t, x, fuel)
	}
}

// mixedTree returns a sum of some terms, and of as many others.
func mixedTree(many int, x impl.Term, others int, y impl.Term) impl.Term {
	if others == 0 {
		return sumTree(many, x)
	}
	return addTerms(sumTree(many, x), sumTree(others, y))
}

// growingTerms calls what for terms with a body of many nodes with an argument,
// which has a body with an argument in it.
func growingTerms(what func(impl.Term)) {
	for leaves := 1; leaves < 7; leaves++ {
		for inside := 1; inside < 8; inside++ {
			for outside := 1; outside < 9; outside++ {
				for others := range 12 {
					inner := mixedTree(inside, bound(0), others%3, numeral(2))
					outer := mixedTree(outside, bound(0), others/3, numeral(3))
					f := lam(applyTerm(lam(outer), inner))
					what(applyTerm(f, sumTree(leaves, numeral(1))))
					what(applyTerm(f, lam(sumTree(leaves, numeral(1)))))
				}
			}
		}
	}
}

// TestBodiesOfLimits is about bodies with as many nodes as there can be, and with more.
func TestBodiesOfLimits(t *testing.T) {
	seen := map[int]int{}
	growingTerms(func(x impl.Term) {
		if !termValidBy(x) {
			return
		}
		m, code := checkNumberTerm(t, x, 2)
		if (code == impl.EvalLarge) != (m.largest > 400) {
			t.Fatalf("a body of %d nodes in %s has the code %d", m.largest, termTextBy(x), code)
		}
		seen[m.largest]++
		if m.largest > 380 {
			checkNumberTerm(t, x, 1)
		}
	})
	if seen[400] == 0 || seen[401] == 0 {
		t.Errorf("%d bodies have 400 nodes, and %d have one more", seen[400], seen[401])
	}
}

func TestTooLargeTerms(t *testing.T) {
	// The argument is doubled again and again, and is part of the body.
	const text = "((..((#1 #1) (#0+#0)) ..((#1 #1) (#0+#0))) 1)"
	x := mustTerm(t, text)
	large := false
	for fuel := range termFuel + 1 {
		_, code := checkNumberTerm(t, x, fuel)
		if code != impl.EvalFuel && code != impl.EvalLarge || large && code != impl.EvalLarge {
			t.Errorf("NumberTerm(%s, %d) has the code %d", text, fuel, code)
		}
		large = code == impl.EvalLarge
	}
	if !large {
		t.Error("no body is too large")
	}
	// What is not evaluated is not too large.
	for text, want := range map[string]int{
		"(.1 " + text + ")": impl.EvalDone, "((1 2)+" + text + ")": impl.EvalStuck, "(1 " + text + ")": impl.EvalStuck,
		"(" + text + "+(1 2))": impl.EvalLarge, "(" + text + " 1)": impl.EvalLarge, "(.#0 " + text + ")": impl.EvalLarge,
	} {
		if _, code := checkNumberTerm(t, mustTerm(t, text), 100); code != want {
			t.Errorf("NumberTerm(%s) has the code %d", text, code)
		}
	}
}

// loopTerm returns a term that applies functions again and again, to the same
// arguments or to greater ones.
func loopTerm(r *rand.Rand) impl.Term {
	arg := treeOfVars(r, 2, 1+r.Intn(3))
	if r.Intn(4) == 0 {
		arg = sumTree(1+r.Intn(3), bound(0))
	}
	f := lamsOver(2, applyTerm(applyTerm(bound(1), bound(1)), arg))
	return applyTerm(applyTerm(f, f), randomTerm(r, 0, 1))
}

func TestRandomNumberTerms(t *testing.T) {
	r := rand.New(rand.NewSource(116))
	var ends [impl.EvalInvalid]int
	var calls []int
	for i := range 20000 {
		x := randomNumberTerm(r)
		switch i % 5 {
		case 0, 1:
			x = randomClosedTerm(r)
		case 2:
			x = loopTerm(r)
		}
		m, code := checkNumberTerm(t, x, termFuel)
		ends[code]++
		calls = append(calls, m.calls)
		for _, fuel := range []int{0, m.calls / 2, max(m.calls-1, 0), m.calls, r.Intn(termFuel + 1)} {
			_, code := checkNumberTerm(t, x, fuel)
			ends[code]++
		}
	}
	if slices.Min(ends[:]) < 1000 || slices.Max(calls) < termFuel {
		t.Errorf("the codes come %v times, and there are at most %d calls", ends, slices.Max(calls))
	}
}

func TestNumberTermChangesNoArguments(t *testing.T) {
	const text = "(.(.(#0 5) .(#0+#1)) (.#0 30))"
	x := mustTerm(t, text)
	room := append(x.Kids, numeral(33))
	given := impl.Term{Op: x.Op, Kids: room[:2]}
	for fuel := range 10 {
		impl.NumberTerm(given, fuel)
		impl.LiftTerm(given)
	}
	if impl.FormatTerm(given) != text || !equalTerms(room[2], numeral(33)) {
		t.Error("an argument changes, or memory behind it")
	}
	// The same part can stand in several places.
	part := lam(addTerms(bound(0), numeral(1)))
	shared := applyTerm(part, applyTerm(part, numeral(3)))
	if n, code := impl.NumberTerm(shared, 5); n != 5 || code != impl.EvalDone {
		t.Errorf("NumberTerm of a term that shares its parts = %d, %d", n, code)
	}
	if !equalTerms(shared, cloneTerm(shared)) || !checkLift(t, shared) {
		t.Error("a term that shares its parts is not lifted")
	}
}
