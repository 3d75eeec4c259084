package tests

import (
	"math/bits"
	"math/rand"
	"strings"
	"testing"

	"loop.example/graphreducer/impl"
)

// needOf returns what a text says about the arguments of functions: `!` for yes
// and `.` for no, with a semicolon behind each function.
func needOf(t *testing.T, text string) [][]bool {
	t.Helper()
	var need [][]bool
	for marks := range strings.SplitSeq(strings.TrimSuffix(text, ";"), ";") {
		if strings.Trim(marks, "!.") != "" {
			t.Fatalf("there is no need %q", text)
		}
		if text != "" {
			need = append(need, marksOf(marks))
		}
	}
	return need
}

func marksOf(marks string) []bool {
	var row []bool
	for _, mark := range marks {
		row = append(row, mark == '!')
	}
	return row
}

// needText returns the text of needOf.
func needText(need [][]bool) string {
	var b strings.Builder
	for _, row := range need {
		for _, said := range row {
			if said {
				b.WriteByte('!')
			} else {
				b.WriteByte('.')
			}
		}
		b.WriteByte(';')
	}
	return b.String()
}

// neededBy returns the variables that an expression needs as bits, if the
// variables that the arguments behind it need are those of args.
func neededBy(e impl.Expr, need [][]bool, args ...uint) uint {
	switch e.Op {
	case impl.ExpVar:
		return 1 << e.N
	case impl.ExpGlobal:
		if e.N >= len(need) || len(args) < len(need[e.N]) {
			return 0
		}
		var all uint
		for i, said := range need[e.N] {
			if said {
				all |= args[i]
			}
		}
		return all
	case impl.ExpApp:
		return neededBy(e.Kids[0], need, append([]uint{neededBy(e.Kids[1], need)}, args...)...)
	case impl.ExpFst, impl.ExpSnd:
		return neededBy(e.Kids[0], need)
	case impl.ExpAdd, impl.ExpSub:
		return neededBy(e.Kids[0], need) | neededBy(e.Kids[1], need)
	case impl.ExpIf:
		return neededBy(e.Kids[0], need) | neededBy(e.Kids[1], need)&neededBy(e.Kids[2], need)
	}
	return 0
}

// holdsBy reports whether a need of the right shape holds for a program.
func holdsBy(p []impl.Def, need [][]bool) bool {
	for f, row := range need {
		needed := neededBy(p[f].Body, need)
		for v, said := range row {
			if said && needed>>v&1 == 0 {
				return false
			}
		}
	}
	return true
}

// arityOf returns the number of arguments of all functions together.
func arityOf(p []impl.Def) int {
	sum := 0
	for _, d := range p {
		sum += d.Arity
	}
	return sum
}

// needOfBits returns the need for a program with a bit for each argument.
func needOfBits(p []impl.Def, all uint) [][]bool {
	var need [][]bool
	for _, d := range p {
		var row []bool
		for range d.Arity {
			row = append(row, all&1 == 1)
			all >>= 1
		}
		need = append(need, row)
	}
	return need
}

// strictBy returns the need that holds and says of the most arguments that they
// are needed, of all that there are for a program, and how many others of these hold.
func strictBy(t *testing.T, p []impl.Def) ([][]bool, int) {
	t.Helper()
	best, many := uint(0), 0
	for all := range uint(1) << arityOf(p) {
		if !holdsBy(p, needOfBits(p, all)) {
			continue
		}
		many++
		if bits.OnesCount(all) > bits.OnesCount(best) {
			best = all
		}
	}
	return needOfBits(p, best), many - 1
}

// eagerCellBy returns the cell from which an eager step is made, and how many
// arguments lie on the way to it.
func eagerCellBy(p []impl.Def, g []impl.Cell, at int, need [][]bool, most int) (int, int) {
	redex, ok := redexBy(p, g, at, map[int]bool{})
	if most == 0 || !ok || g[redex].Op != impl.ExpApp {
		return at, 0
	}
	f, cells, _ := spineBy(g, redex, map[int]bool{})
	for i, said := range need[g[f].N] {
		arg := g[cells[len(cells)-1-i]].Kids[1]
		if said && !valueBy(p, g, arg) {
			end, way := eagerCellBy(p, g, arg, need, most-1)
			return end, way + 1
		}
	}
	return at, 0
}

// eagerBy returns what EagerNumber returns, and how many arguments lie on the
// longest way to a step.
func eagerBy(p []impl.Def, e impl.Expr, fuel int) (int, int, int, int) {
	g, root, _ := impl.BuildGraph(e, len(p))
	need := impl.StrictArgs(p)
	longest := 0
	for steps := 0; ; steps++ {
		if valueBy(p, g, root) {
			if !standsForKind(g, root, impl.ExpNum) {
				return 0, impl.EvalStuck, steps, longest
			}
			at, _ := impl.FollowInd(g, root)
			return g[at].N, impl.EvalDone, steps, longest
		}
		if steps == fuel {
			return 0, impl.EvalFuel, steps, longest
		}
		at, way := eagerCellBy(p, g, root, need, impl.MaxDepth)
		longest = max(longest, way)
		h, code, _ := stepBy(p, g, at)
		if code != impl.EvalDone {
			return 0, code, steps, longest
		}
		g = h
	}
}

// randomNeed returns a need with some elements, each of them with some elements.
func randomNeed(r *rand.Rand, most int, mostArgs int) [][]bool {
	var need [][]bool
	for range r.Intn(most + 1) {
		var row []bool
		for range r.Intn(mostArgs + 1) {
			row = append(row, r.Intn(3) > 0)
		}
		need = append(need, row)
	}
	return need
}

// callOf returns the application of a function to arguments.
func callOf(f int, args ...impl.Expr) impl.Expr {
	e := global(f)
	for _, a := range args {
		e = node(impl.ExpApp, 0, e, a)
	}
	return e
}

// randomCalls returns a call, or a sum or choice of two of them.
func randomCalls(r *rand.Rand, vars int, p []impl.Def, depth int) impl.Expr {
	call := func() impl.Expr {
		f := r.Intn(len(p))
		var args []impl.Expr
		for range p[f].Arity {
			if depth > 1 && r.Intn(3) > 0 {
				args = append(args, randomCalls(r, vars, p, depth-1))
			} else {
				args = append(args, randomNumber(r, vars, p, 1+r.Intn(3)))
			}
		}
		return callOf(f, args...)
	}
	switch r.Intn(6) {
	case 0, 1:
		return node(impl.ExpIf, 0, randomNumber(r, vars, p, 1), call(), call())
	case 2:
		return node(impl.ExpAdd, 0, call(), call())
	}
	return call()
}

// callingProgram returns a program with functions, some of which call others.
func callingProgram(r *rand.Rand) []impl.Def {
	p := randomProgram(r)
	for i := range p {
		if body := randomCalls(r, p[i].Arity, p, 1); r.Intn(2) == 0 && impl.ExprValid(body, p[i].Arity, len(p)) {
			p[i].Body = body
		}
	}
	return p
}

// callingExpr returns a closed expression with calls in calls, if there are functions.
func callingExpr(r *rand.Rand, p []impl.Def) impl.Expr {
	if len(p) > 0 {
		if e := randomCalls(r, 0, p, 1+r.Intn(4)); impl.ExprValid(e, 0, len(p)) {
			return e
		}
	}
	return randomClosed(r, p)
}

// spoilNeed overwrites a need, also behind the ends of its parts.
func spoilNeed(need [][]bool) {
	for _, row := range need {
		row = row[:cap(row)]
		for i := range row {
			row[i] = !row[i]
		}
	}
	need = need[:cap(need)]
	for i := range need {
		need[i] = []bool{true, true, true, true, true}
	}
}
