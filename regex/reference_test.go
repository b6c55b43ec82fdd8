package regex_test

import (
	"math"
	"strings"

	"sentinel/api"
)

// The functions of this file are written without the packages under test: expressions are trees here.

// noNumbersOfVars contains numbers of variables that no alphabet has.
func noNumbersOfVars() []int {
	return []int{math.MinInt, math.MinInt32, -64, -1, 7, 8, 63, 64, 1 << 32, 1<<32 + 2, math.MaxInt}
}

// arity contains the number of children of each operator.
var arity = map[uint8]int{
	api.RxNone: 0, api.RxEmpty: 0, api.RxLetter: 0,
	api.RxNot: 1, api.RxStar: 1, api.RxAhead: 1, api.RxBehind: 1,
	api.RxCat: 2, api.RxAlt: 2, api.RxAnd: 2,
}

// tree is an expression.
type tree struct {
	op       uint8
	cube     api.Cube
	operands []*tree
}

func leaf(op uint8) *tree                 { return &tree{op: op} }
func letter(pos, neg uint8) *tree         { return &tree{op: api.RxLetter, cube: api.Cube{Pos: pos, Neg: neg}} }
func node(op uint8, below ...*tree) *tree { return &tree{op: op, operands: below} }

// textOfCube returns the text of a valid cube.
func textOfCube(c api.Cube) string {
	text := ""
	for k, name := range []string{"a", "b", "c", "d", "e", "f"} {
		if c.Pos>>k%2 == 1 {
			text += name
		}
		if c.Neg>>k%2 == 1 {
			text += "!" + name
		}
	}
	if text == "" {
		return "*"
	}
	return text
}

// text returns the text of an expression.
func (t *tree) text() string {
	var below []string
	for _, o := range t.operands {
		below = append(below, o.text())
	}
	switch t.op {
	case api.RxNone:
		return "0"
	case api.RxEmpty:
		return "1"
	case api.RxLetter:
		return "[" + textOfCube(t.cube) + "]"
	case api.RxCat:
		return "(" + below[0] + "." + below[1] + ")"
	case api.RxAlt:
		return "(" + below[0] + "|" + below[1] + ")"
	case api.RxAnd:
		return "(" + below[0] + "&" + below[1] + ")"
	case api.RxNot:
		return "(~" + below[0] + ")"
	case api.RxStar:
		return "(" + below[0] + "*)"
	case api.RxAhead:
		return "(>" + below[0] + ")"
	}
	return "(<" + below[0] + ")"
}

// pieces returns the expression in canonical postorder.
func (t *tree) pieces() api.Regex {
	return t.appendTo(nil)
}

func (t *tree) appendTo(e api.Regex) api.Regex {
	roots := []int{}
	for _, o := range t.operands {
		e = o.appendTo(e)
		roots = append(roots, len(e)-1)
	}
	p := api.Piece{Op: t.op, Pos: t.cube.Pos, Neg: t.cube.Neg}
	if len(roots) > 0 {
		p.A = roots[0]
	}
	if len(roots) > 1 {
		p.B = roots[1]
	}
	return append(e, p)
}

// blocks returns the expressions of the pieces in their order.
func (t *tree) blocks() []*tree {
	var l []*tree
	for _, o := range t.operands {
		l = append(l, o.blocks()...)
	}
	return append(l, t)
}

// reversed returns the expression that Reverse should return.
func (t *tree) reversed() *tree {
	r := &tree{op: t.op, cube: t.cube}
	for _, o := range t.operands {
		if t.op == api.RxCat {
			r.operands = append([]*tree{o.reversed()}, r.operands...)
		} else {
			r.operands = append(r.operands, o.reversed())
		}
	}
	if t.op == api.RxAhead {
		r.op = api.RxBehind
	}
	if t.op == api.RxBehind {
		r.op = api.RxAhead
	}
	return r
}

// plain reports whether an expression contains no look-around.
func (t *tree) plain() bool {
	return !strings.ContainsAny(t.text(), "><")
}

// faultOf returns what Check should return. It reads the pieces as a program for a stack.
func faultOf(e api.Regex, vars int) api.Errno {
	switch {
	case vars < 0 || vars > 6:
		return api.ErrVars
	case len(e) == 0:
		return api.ErrShort
	case len(e) > 64:
		return api.ErrLong
	}
	var stack []int
	parent := map[int]int{}
	for i, p := range e {
		if fault := faultOfFields(p, vars); fault != api.OK {
			return fault
		}
		rest := len(stack) - arity[p.Op]
		if rest < 0 {
			return api.ErrState
		}
		for k, child := range stack[rest:] {
			if child != []int{p.A, p.B}[k] {
				return api.ErrState
			}
			parent[child] = i
		}
		stack = append(stack[:rest], i)
	}
	if len(stack) != 1 || looksFromBelow(e, parent) {
		return api.ErrForm
	}
	return api.OK
}

// faultOfFields returns what is wrong with a piece whatever is before it.
func faultOfFields(p api.Piece, vars int) api.Errno {
	n, known := arity[p.Op]
	switch {
	case !known:
		return api.ErrKind
	case n < 1 && p.A != 0, n < 2 && p.B != 0, p.Op != api.RxLetter && (p.Pos != 0 || p.Neg != 0):
		return api.ErrForm
	case p.Pos>>vars != 0 || p.Neg>>vars != 0:
		return api.ErrVars
	case p.Pos&p.Neg != 0:
		return api.ErrForm
	}
	return api.OK
}

// looksFromBelow reports whether the way up from a look-around meets an operator other than RxCat and RxAlt.
func looksFromBelow(e api.Regex, parent map[int]int) bool {
	for i, p := range e {
		if p.Op != api.RxAhead && p.Op != api.RxBehind {
			continue
		}
		for up, below := parent[i]; below; up, below = parent[up] {
			if e[up].Op != api.RxCat && e[up].Op != api.RxAlt {
				return true
			}
		}
	}
	return false
}

// cubesByText returns the valid cubes over six variables by their texts, and all beginnings of these.
func cubesByText() (map[string]api.Cube, map[string]bool) {
	cubes, beginnings := map[string]api.Cube{}, map[string]bool{}
	for pos := range 64 {
		for neg := range 64 {
			if pos&neg == 0 {
				c := api.Cube{Pos: uint8(pos), Neg: uint8(neg)}
				cubes[textOfCube(c)] = c
			}
		}
	}
	for text := range cubes {
		for n := range len(text) + 1 {
			beginnings[text[:n]] = true
		}
	}
	return cubes, beginnings
}

// grammar says which texts there are.
type grammar struct {
	cubes      map[string]api.Cube
	beginnings map[string]bool
}

func newGrammar() grammar {
	cubes, beginnings := cubesByText()
	return grammar{cubes, beginnings}
}

// fault returns the error in the syntax of a text, from what may follow byte by byte.
func (g grammar) fault(s string) api.Errno {
	follow := []string{"expression"} // what must follow, the last first
	literals := ""
	for i := 0; i < len(s); i++ {
		if len(follow) == 0 {
			return api.ErrMore
		}
		what := follow[len(follow)-1]
		follow = follow[:len(follow)-1]
		if what == "group" && !strings.Contains("~><", s[i:i+1]) {
			follow = append(follow, "operator")
			what = "expression"
		}
		switch {
		case what == "group":
			follow = append(follow, "expression")
		case what == "expression" && s[i] == '(':
			follow = append(follow, ")", "group")
		case what == "expression" && s[i] == '[':
			literals = ""
			follow = append(follow, "cube")
		case what == "expression" && (s[i] == '0' || s[i] == '1'):
		case what == "operator" && strings.Contains(".|&", s[i:i+1]):
			follow = append(follow, "expression")
		case what == "operator" && s[i] == '*':
		case what == "cube" && g.beginnings[literals+s[i:i+1]]:
			literals += s[i : i+1]
			follow = append(follow, "cube")
		case what == "cube" && s[i] == ']' && g.isCube(literals):
		case what == ")" && s[i] == ')':
		default:
			return api.ErrForm
		}
	}
	if len(follow) > 0 {
		return api.ErrShort
	}
	return api.OK
}

func (g grammar) isCube(literals string) bool {
	_, is := g.cubes[literals]
	return is
}

// tree returns the expression of a text without an error in its syntax.
func (g grammar) tree(s string) *tree {
	inner := s[1:max(1, len(s)-1)]
	switch {
	case s == "0":
		return leaf(api.RxNone)
	case s == "1":
		return leaf(api.RxEmpty)
	case s[0] == '[':
		c := g.cubes[inner]
		return letter(c.Pos, c.Neg)
	case inner[0] == '~':
		return node(api.RxNot, g.tree(inner[1:]))
	case inner[0] == '>':
		return node(api.RxAhead, g.tree(inner[1:]))
	case inner[0] == '<':
		return node(api.RxBehind, g.tree(inner[1:]))
	case inner[len(inner)-1] == '*':
		return node(api.RxStar, g.tree(inner[:len(inner)-1]))
	}
	depth := 0
	for i, sign := range inner {
		switch sign {
		case '(', '[':
			depth++
		case ')', ']':
			depth--
		case '.', '|', '&':
			if depth == 0 {
				op := map[rune]uint8{'.': api.RxCat, '|': api.RxAlt, '&': api.RxAnd}[sign]
				return node(op, g.tree(inner[:i]), g.tree(inner[i+1:]))
			}
		}
	}
	return nil
}

// parsed returns what Parse should return.
func (g grammar) parsed(s string, vars int) (api.Regex, api.Errno) {
	if vars < 0 || vars > 6 {
		return nil, api.ErrVars
	}
	if len(s) > 4096 {
		return nil, api.ErrLong
	}
	if fault := g.fault(s); fault != api.OK {
		return nil, fault
	}
	e := g.tree(s).pieces()
	if fault := faultOf(e, vars); fault != api.OK {
		return nil, fault
	}
	return e, api.OK
}

// treesOf returns all expressions with n pieces over two variables in which each leaf is one of a few.
func treesOf(n int) []*tree {
	if n == 1 {
		return []*tree{leaf(api.RxNone), leaf(api.RxEmpty), letter(0, 0), letter(1, 2)}
	}
	var l []*tree
	for _, a := range treesOf(n - 1) {
		for _, op := range []uint8{api.RxNot, api.RxStar, api.RxAhead, api.RxBehind} {
			l = append(l, node(op, a))
		}
	}
	for k := 1; k < n-1; k++ {
		for _, a := range treesOf(k) {
			for _, b := range treesOf(n - 1 - k) {
				for _, op := range []uint8{api.RxCat, api.RxAlt, api.RxAnd} {
					l = append(l, node(op, a, b))
				}
			}
		}
	}
	return l
}

// choice is a source of numbers that is the same in each run.
type choice uint64

// below returns a number from 0 to n - 1.
func (c *choice) below(n int) int {
	*c = *c*6364136223846793005 + 1442695040888963407
	return int(uint64(*c) >> 33 % uint64(n))
}

// tree returns an expression with n pieces that is valid for vars variables if
// look-arounds are allowed only where they may be.
func (c *choice) tree(n, vars int, allowed bool) *tree {
	if n == 1 {
		if c.below(3) > 0 {
			pos := c.below(1 << vars)
			return letter(uint8(pos), uint8(c.below(1<<vars)&^pos))
		}
		return leaf(api.RxNone + uint8(c.below(2)))
	}
	if n == 2 || c.below(3) == 0 {
		op := api.RxNot + uint8(c.below(2))
		if allowed && c.below(2) == 0 {
			op = api.RxAhead + uint8(c.below(2))
		}
		return node(op, c.tree(n-1, vars, false))
	}
	op := api.RxCat + uint8(c.below(3))
	allowed = allowed && op != api.RxAnd
	k := 1 + c.below(n-2)
	return node(op, c.tree(k, vars, allowed), c.tree(n-1-k, vars, allowed))
}

// sample is an expression that is valid for vars variables.
type sample struct {
	*tree
	vars int
}

// samples returns valid expressions of all sizes.
func samples() []sample {
	var l []sample
	for n := range 4 {
		for _, t := range treesOf(n + 1) {
			if faultOf(t.pieces(), 2) == api.OK {
				l = append(l, sample{t, 2})
			}
		}
	}
	draw := choice(4)
	for n := range 64 {
		for vars := range 7 {
			for range 4 {
				l = append(l, sample{draw.tree(n+1, vars, true), vars})
			}
		}
	}
	return l
}
