package impl

import (
	"math"
	"strconv"
	"strings"
)

// Expr is an expression.
type Expr struct {
	Op   int
	N    int
	Kids []Expr
}

// Def is a function by its arity and its body.
type Def struct {
	Arity int
	Body  Expr
}

// Kinds of expressions, and limits.
const (
	ExpVar    = 1
	ExpNum    = 2
	ExpGlobal = 3
	ExpApp    = 4
	ExpPair   = 5
	ExpFst    = 6
	ExpSnd    = 7
	ExpAdd    = 8
	ExpSub    = 9
	ExpIf     = 10
	MaxArity  = 4
	MaxDefs   = 6
	MaxNumber = 999
	MaxNodes  = 60
	MaxDepth  = 16
)

// node is what an expression is at its top. Its methods are not exported, so
// that the kinds of this file are all that there are.
type node interface {
	fits(vars int, defs int) bool
	text(kids []string) string
}

type varNode int

type numNode int

type globalNode int

// opNode is a node with operands: each one has a mark in front of it, and a
// mark that is left over stands behind the last one.
type opNode struct {
	kids  int
	marks string
}

func (v varNode) fits(vars int, defs int) bool { return 0 <= v && int(v) < vars }

func (n numNode) fits(vars int, defs int) bool { return 0 <= n && n <= MaxNumber }

func (g globalNode) fits(vars int, defs int) bool { return 0 <= g && int(g) < defs }

func (o opNode) fits(vars int, defs int) bool { return true }

func (v varNode) text(kids []string) string { return letter('a', int(v)) }

func (n numNode) text(kids []string) string { return strconv.Itoa(int(n)) }

func (g globalNode) text(kids []string) string { return letter('A', int(g)) }

func (o opNode) text(kids []string) string {
	var b strings.Builder
	for i, k := range kids {
		b.WriteByte(o.marks[i])
		b.WriteString(k)
	}
	b.WriteString(o.marks[len(kids):])
	return b.String()
}

func letter(first byte, n int) string { return string([]byte{first + byte(n)}) }

// opOf returns how nodes of a kind with operands are written.
func opOf(op int) (opNode, bool) {
	switch op {
	case ExpApp:
		return opNode{2, "( )"}, true
	case ExpPair:
		return opNode{2, "<,>"}, true
	case ExpFst:
		return opNode{1, "~"}, true
	case ExpSnd:
		return opNode{1, "^"}, true
	case ExpAdd:
		return opNode{2, "(+)"}, true
	case ExpSub:
		return opNode{2, "(-)"}, true
	case ExpIf:
		return opNode{3, "[?:]"}, true
	}
	return opNode{}, false
}

// nodeOf returns the node with a kind, an N and a number of operands, and
// whether these are the fields of its kind.
func nodeOf(op int, n int, kids int) (node, bool) {
	switch op {
	case ExpVar:
		return varNode(n), kids == 0
	case ExpNum:
		return numNode(n), kids == 0
	case ExpGlobal:
		return globalNode(n), kids == 0
	}
	o, ok := opOf(op)
	return o, ok && n == 0 && kids == o.kids
}

// ExprValid reports whether e is an expression with some variables and functions.
func ExprValid(e Expr, vars int, defs int) bool {
	if vars < 0 || vars > MaxArity || defs < 0 || defs > MaxDefs {
		return false
	}
	return nodesLeft(e, vars, defs, MaxDepth, MaxNodes) >= 0
}

// nodesLeft returns how many of the given nodes are left behind those of e, or
// a negative number if e is not valid. The budget also ends the search in an
// expression that shares its parts many times over, or that contains itself.
func nodesLeft(e Expr, vars int, defs int, depth int, nodes int) int {
	n, ok := nodeOf(e.Op, e.N, len(e.Kids))
	if !ok || !n.fits(vars, defs) || depth == 0 || nodes == 0 {
		return -1
	}
	nodes--
	for _, k := range e.Kids {
		nodes = nodesLeft(k, vars, defs, depth-1, nodes)
		if nodes < 0 {
			return -1
		}
	}
	return nodes
}

// exprFits reports whether e is valid with as many variables and functions as there can be.
func exprFits(e Expr) bool { return ExprValid(e, MaxArity, MaxDefs) }

// ProgramValid reports whether p is valid.
func ProgramValid(p []Def) bool {
	if len(p) > MaxDefs {
		return false
	}
	for _, d := range p {
		if !ExprValid(d.Body, d.Arity, len(p)) {
			return false
		}
	}
	return true
}

// ExprSame reports whether a and b are equal. It compares each pair of parts
// once and without recursion, since an expression that is not valid can be very
// deep, share its parts many times over, or contain itself.
func ExprSame(a Expr, b Expr) bool {
	type pair struct{ a, b *Expr }
	seen := map[pair]bool{}
	work := []pair{{&a, &b}}
	for len(work) > 0 {
		x := work[len(work)-1]
		work = work[:len(work)-1]
		if x.a.Op != x.b.Op || x.a.N != x.b.N || len(x.a.Kids) != len(x.b.Kids) {
			return false
		}
		for i := range x.a.Kids {
			kids := pair{&x.a.Kids[i], &x.b.Kids[i]}
			if kids.a != kids.b && !seen[kids] {
				seen[kids] = true
				work = append(work, kids)
			}
		}
	}
	return true
}

// foldExpr returns what join makes of e and the results for its operands. It is
// for valid expressions, whose depth is small.
func foldExpr[T any](e Expr, join func(Expr, []T) T) T {
	var kids []T
	for _, k := range e.Kids {
		kids = append(kids, foldExpr(k, join))
	}
	return join(e, kids)
}

// FormatExpr returns the text of an expression.
func FormatExpr(e Expr) string {
	if !exprFits(e) {
		return ""
	}
	return foldExpr(e, nodeText)
}

func nodeText(e Expr, kids []string) string {
	n, ok := nodeOf(e.Op, e.N, len(e.Kids))
	if !ok {
		return ""
	}
	return n.text(kids)
}

// reader reads an expression from the beginning of rest. It counts the nodes,
// so that it gives up on a text that is too large before it is too deep in it.
type reader struct {
	rest  string
	nodes int
}

// next returns the byte at the beginning of rest; 0, with which no expression
// begins or goes on, if there is none.
func (r *reader) next() byte {
	if r.rest == "" {
		return 0
	}
	return r.rest[0]
}

// skip removes a text from the beginning of rest.
func (r *reader) skip(text string) bool {
	var ok bool
	r.rest, ok = strings.CutPrefix(r.rest, text)
	return ok
}

func (r *reader) expr() (Expr, bool) {
	if r.nodes == MaxNodes {
		return Expr{}, false
	}
	r.nodes++
	c := r.next()
	switch {
	case 'a' <= c && c <= 'z':
		r.rest = r.rest[1:]
		return Expr{Op: ExpVar, N: int(c - 'a')}, true
	case 'A' <= c && c <= 'Z':
		r.rest = r.rest[1:]
		return Expr{Op: ExpGlobal, N: int(c - 'A')}, true
	case isDigit(c):
		n, ok := r.number()
		return Expr{Op: ExpNum, N: n}, ok
	}
	return r.operation()
}

func isDigit(c byte) bool { return '0' <= c && c <= '9' }

// number reads a number. It ends behind a zero in front, because no text of an
// expression has a digit behind a number.
func (r *reader) number() (int, bool) {
	n := int(r.next() - '0')
	r.rest = r.rest[1:]
	for n > 0 && n <= MaxNumber && isDigit(r.next()) {
		n = 10*n + int(r.next()-'0')
		r.rest = r.rest[1:]
	}
	return n, n <= MaxNumber
}

// operation reads an expression with operands. The kinds in round brackets are
// told apart only by the mark behind the first operand.
func (r *reader) operation() (Expr, bool) {
	op, ok := prefixKind(r.next())
	if !ok {
		return Expr{}, false
	}
	r.rest = r.rest[1:]
	first, ok := r.expr()
	if !ok {
		return Expr{}, false
	}
	if op == ExpApp {
		op = infixKind(r.next())
	}
	o, _ := opOf(op)
	e := Expr{Op: op, Kids: []Expr{first}}
	for i := 1; i < o.kids; i++ {
		if !r.skip(o.marks[i : i+1]) {
			return Expr{}, false
		}
		k, ok := r.expr()
		if !ok {
			return Expr{}, false
		}
		e.Kids = append(e.Kids, k)
	}
	return e, r.skip(o.marks[o.kids:])
}

// prefixKind returns the kind of an expression by its first mark, with ExpApp
// for all of those in round brackets.
func prefixKind(mark byte) (int, bool) {
	switch mark {
	case '(':
		return ExpApp, true
	case '<':
		return ExpPair, true
	case '~':
		return ExpFst, true
	case '^':
		return ExpSnd, true
	case '[':
		return ExpIf, true
	}
	return 0, false
}

// infixKind returns the kind of an expression in round brackets by its second mark.
func infixKind(mark byte) int {
	switch mark {
	case '+':
		return ExpAdd
	case '-':
		return ExpSub
	}
	return ExpApp
}

// ParseExpr parses the text of an expression.
func ParseExpr(text string) (Expr, bool) {
	r := reader{rest: text}
	e, ok := r.expr()
	if !ok || r.rest != "" || !exprFits(e) {
		return Expr{}, false
	}
	return e, true
}

// FormatProgram returns the text of a program.
func FormatProgram(p []Def) string {
	if !ProgramValid(p) {
		return ""
	}
	var b strings.Builder
	for i, d := range p {
		b.WriteString(defHead(i, d.Arity) + FormatExpr(d.Body) + "\n")
	}
	return b.String()
}

// defHead returns what stands in front of the body in the text of a function.
func defHead(f int, arity int) string {
	return letter('A', f) + strconv.Itoa(arity) + "="
}

// ParseProgram parses the text of a program.
func ParseProgram(text string) ([]Def, bool) {
	var p []Def
	for text != "" {
		line, rest, ok := strings.Cut(text, "\n")
		if !ok || len(p) == MaxDefs {
			return nil, false
		}
		d, ok := parseDef(line, len(p))
		if !ok {
			return nil, false
		}
		p = append(p, d)
		text = rest
	}
	if !ProgramValid(p) {
		return nil, false
	}
	return p, true
}

// parseDef parses the text of the function f, without its newline.
func parseDef(line string, f int) (Def, bool) {
	for arity := range MaxArity + 1 {
		if text, ok := strings.CutPrefix(line, defHead(f, arity)); ok {
			body, ok := ParseExpr(text)
			return Def{Arity: arity, Body: body}, ok
		}
	}
	return Def{}, false
}

// SubstExpr replaces the variables of an expression.
func SubstExpr(e Expr, args []Expr) (Expr, bool) {
	if !ExprValid(e, len(args), MaxDefs) {
		return Expr{}, false
	}
	for _, a := range args {
		if !exprFits(a) {
			return Expr{}, false
		}
	}
	result := foldExpr(e, func(x Expr, kids []Expr) Expr {
		if x.Op == ExpVar {
			return copyExpr(args[x.N])
		}
		return withKids(x, kids)
	})
	if !exprFits(result) {
		return Expr{}, false
	}
	return result, true
}

// copyExpr returns a valid expression in new memory.
func copyExpr(e Expr) Expr { return foldExpr(e, withKids) }

func withKids(e Expr, kids []Expr) Expr { return Expr{Op: e.Op, N: e.N, Kids: kids} }

// SizeOf returns the number of nodes of an expression.
func SizeOf(e Expr) int {
	return countNodes(e, func(Expr) bool { return true })
}

// VarsUsed returns how often each variable stands in an expression.
func VarsUsed(e Expr, vars int) []int {
	if vars < 0 || vars > MaxArity {
		return nil
	}
	used := make([]int, vars)
	for v := range used {
		used[v] = countNodes(e, func(x Expr) bool { return x.Op == ExpVar && x.N == v })
	}
	return used
}

// tree is a node with other ones of its type as operands.
type tree[T any] interface{ operands() []T }

func (e Expr) operands() []Expr { return e.Kids }

// visit is a node whose operands up to next are counted, with the sum so far.
type visit[T tree[T]] struct {
	at   *T
	next int
	sum  int
}

// countNodes returns how many nodes of e are wanted. It visits each part once
// and without recursion, for the same reasons as ExprSame. There is no number
// if e contains itself, or if an int is too small for it; the result is 0 then.
func countNodes[T tree[T]](e T, want func(T) bool) int {
	const unfinished = -1
	begin := func(x *T) visit[T] {
		if want(*x) {
			return visit[T]{at: x, sum: 1}
		}
		return visit[T]{at: x}
	}
	counts := map[*T]int{}
	path := []visit[T]{begin(&e)}
	for {
		top := &path[len(path)-1]
		kids := (*top.at).operands()
		if top.next == len(kids) {
			if len(path) == 1 {
				return top.sum
			}
			counts[top.at] = top.sum
			path = path[:len(path)-1]
			continue
		}
		kid := &kids[top.next]
		n, seen := counts[kid]
		if !seen {
			counts[kid] = unfinished
			path = append(path, begin(kid))
			continue
		}
		if n == unfinished || n > math.MaxInt-top.sum {
			return 0
		}
		top.sum += n
		top.next++
	}
}
