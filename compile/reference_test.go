package compile_test

import (
	"math"
	"slices"
	"testing"

	"sentinel/api"
	"sentinel/cube"
	"sentinel/internal/dfatest"
	"sentinel/match"
	"sentinel/regex"
)

// The models of this file are written without automata: what an expression accepts is asked from package match,
// states are found by trying words, and elimination expressions are trees.

// sample is an expression that is valid for vars variables.
type sample struct {
	api.Regex
	text string
	vars int
}

// parsed returns the sample of a text.
func parsed(t *testing.T, text string, vars int) sample {
	t.Helper()
	e, fault := regex.Parse(text, vars)
	if fault != api.OK {
		t.Fatalf("Parse(%q, %d) returned the error %d", text, vars, fault)
	}
	return sample{e, text, vars}
}

// plain reports whether a sample does not look around.
func (s sample) plain() bool {
	return !slices.ContainsFunc(s.Regex, func(p api.Piece) bool { return p.Op == api.RxAhead || p.Op == api.RxBehind })
}

// accepts returns what match.Accepts says without an error.
func (s sample) accepts(t *testing.T, w []uint8) bool {
	t.Helper()
	is, fault := match.Accepts(s.Regex, s.vars, w)
	if fault != api.OK {
		t.Fatalf("match.Accepts(%q, %d, %d) returned the error %d", s.text, s.vars, w, fault)
	}
	return is
}

// automatonOf returns the automaton whose states are told apart by words of at most so many letters. It is that of the
// expression if this has at most two states more, since then such words tell all its states apart.
func (s sample) automatonOf(t *testing.T, longest int) api.DFA {
	t.Helper()
	known := map[string]bool{}
	accepts := func(w string) bool {
		is, found := known[w]
		if !found {
			is = s.accepts(t, []uint8(w))
			known[w] = is
		}
		return is
	}
	tests := dfatest.WordsUpTo(longest, s.vars)
	states := map[string]string{} // for what words of some kind accept one of them
	stateOf := func(w string) string {
		var signs []byte
		for _, v := range tests {
			sign := byte('-')
			if accepts(w + string(v)) {
				sign = '+'
			}
			signs = append(signs, sign)
		}
		if _, found := states[string(signs)]; !found {
			states[string(signs)] = w
		}
		return states[string(signs)]
	}
	next := func(w string, x uint8) string { return stateOf(w + string([]byte{x})) }
	l := dfatest.ByFirstVisit(stateOf(""), 1<<s.vars, math.MaxInt, next)
	return dfatest.Numbered(s.vars, l, next, accepts)
}

// textsOf returns the texts of all plain and all other expressions over one variable with n pieces.
func textsOf(n int) (plain, looking []string) {
	if n == 1 {
		return []string{"0", "1", "[*]", "[a]", "[!a]"}, nil
	}
	below, _ := textsOf(n - 1)
	for _, a := range below {
		plain = append(plain, "(~"+a+")", "("+a+"*)")
		looking = append(looking, "(>"+a+")", "(<"+a+")")
	}
	for k := 1; k < n-1; k++ {
		plainA, lookingA := textsOf(k)
		plainB, lookingB := textsOf(n - 1 - k)
		for _, a := range plainA {
			for _, b := range plainB {
				plain = append(plain, "("+a+"."+b+")", "("+a+"|"+b+")", "("+a+"&"+b+")")
			}
		}
		for _, a := range append(plainA, lookingA...) {
			for i, b := range append(plainB, lookingB...) {
				if i >= len(plainB) || slices.Contains(lookingA, a) {
					looking = append(looking, "("+a+"."+b+")", "("+a+"|"+b+")")
				}
			}
		}
	}
	return plain, looking
}

// choice is a source of expressions that is the same in each run.
type choice struct{ dfatest.Choice }

// letter returns the text of a letter with few literals.
func (c *choice) letter(vars int) string {
	pos := c.Below(1<<vars) & c.Below(1<<vars)
	neg := c.Below(1<<vars) & c.Below(1<<vars) &^ pos
	text, _ := cube.Format(api.Cube{Pos: uint8(pos), Neg: uint8(neg)}, vars)
	return "[" + text + "]"
}

// text returns the text of an expression of n pieces.
func (c *choice) text(n, vars int, looks bool) string {
	switch {
	case n == 1 && c.Below(8) > 0:
		return c.letter(vars)
	case n == 1:
		return []string{"0", "1"}[c.Below(2)]
	case n == 2 || c.Below(4) == 0:
		a, kinds := c.text(n-1, vars, false), 2
		if looks {
			kinds = 4
		}
		return []string{"(~" + a + ")", "(" + a + "*)", "(>" + a + ")", "(<" + a + ")"}[c.Below(kinds)]
	}
	k, operator := 1+c.Below(n-2), c.Below(8)
	looks = looks && operator < 7
	return "(" + c.text(k, vars, looks) + "....||||&"[operator:operator+1] + c.text(n-1-k, vars, looks) + ")"
}

// pattern returns the text of some letters with gaps in between.
func (c *choice) pattern(letters, vars int) string {
	text := c.letter(vars)
	for range letters - 1 {
		if c.Below(3) == 0 {
			text = "(" + text + ".([*]*))"
		}
		text = "(" + text + "." + c.letter(vars) + ")"
	}
	return text
}

// item returns the text of an expression that is part of a row.
func (c *choice) item(vars int) string {
	switch c.Below(9) {
	case 0:
		return "(" + c.letter(vars) + "*)"
	case 1:
		return "(" + c.pattern(1+c.Below(3), vars) + "*)"
	case 2:
		return "(>" + c.pattern(1+c.Below(3), vars) + ")"
	case 3:
		return "(<" + c.pattern(1+c.Below(3), vars) + ")"
	case 4:
		return "(~" + c.pattern(1+c.Below(2), vars) + ")"
	case 5:
		return "(" + c.item(vars) + "|" + c.item(vars) + ")"
	case 6:
		return "(" + c.item(vars) + "." + c.item(vars) + ")"
	case 7:
		return c.pattern(1+c.Below(3), vars)
	}
	return c.letter(vars)
}

// row returns the text of a row of expressions, many of which look around, with gaps in between.
func (c *choice) row(items, vars int) string {
	text := c.item(vars)
	for range items - 1 {
		if c.Below(2) == 0 {
			text = "(" + text + ".([*]*))"
		}
		if c.Below(2) == 0 {
			text = "(" + text + "." + c.item(vars) + ")"
		} else {
			text = "(" + c.item(vars) + "." + text + ")"
		}
	}
	return text
}

// rows returns so many rows of at most six items, all of which are valid.
func (c *choice) rows(n int) []sample {
	var l []sample
	for len(l) < n {
		vars := 1 + c.Below(3)
		text := c.row(1+c.Below(6), vars)
		if e, fault := regex.Parse(text, vars); fault == api.OK {
			l = append(l, sample{e, text, vars})
		}
	}
	return l
}

// samples returns expressions of all sizes and kinds.
func samples(t *testing.T) []sample {
	t.Helper()
	var l []sample
	draw := choice{101}
	for n := range 64 {
		for vars := range 7 {
			if n < 24 || vars < 3 {
				l = append(l, parsed(t, draw.text(n+1, vars, vars%2 == n%2), vars))
			}
		}
	}
	return append(l, draw.rows(500)...)
}

// some returns one of each so many samples.
func some(t *testing.T, every int) []sample {
	t.Helper()
	return dfatest.Some(samples(t), every)
}

// wordsFor returns words over vars variables: all short ones and some others.
func (c *choice) wordsFor(vars int) [][]uint8 {
	l := dfatest.WordsUpTo([]int{9, 6, 3, 2, 1, 1, 1}[vars], vars)
	for range 12 {
		l = append(l, c.Word(c.Below(12), vars))
	}
	return append(l, c.Word(64, vars))
}

// tree is an expression: its operator, the letter of a leaf, and the numbers of its children.
type tree struct{ op, letter, a, b int }

// forest contains trees, each of them once, so that equal ones have equal numbers.
type forest struct {
	vars    int
	trees   []tree
	numbers map[tree]int
}

// number returns the number of a tree.
func (f *forest) number(x tree) int {
	if _, known := f.numbers[x]; !known {
		f.numbers[x] = len(f.trees)
		f.trees = append(f.trees, x)
	}
	return f.numbers[x]
}

// is reports whether tree k is one of the constants.
func (f *forest) is(k int, op uint8) bool { return f.trees[k].op == int(op) }

func (f *forest) leaf(op uint8) int { return f.number(tree{op: int(op)}) }

func (f *forest) alt(a, b int) int {
	switch {
	case f.is(a, api.RxNone) || a == b:
		return b
	case f.is(b, api.RxNone):
		return a
	}
	return f.number(tree{op: int(api.RxAlt), a: a, b: b})
}

func (f *forest) cat(a, b int) int {
	switch {
	case f.is(a, api.RxNone) || f.is(b, api.RxEmpty):
		return a
	case f.is(b, api.RxNone) || f.is(a, api.RxEmpty):
		return b
	}
	return f.number(tree{op: int(api.RxCat), a: a, b: b})
}

func (f *forest) star(a int) int {
	if f.is(a, api.RxNone) || f.is(a, api.RxEmpty) {
		return f.leaf(api.RxEmpty)
	}
	return f.number(tree{op: int(api.RxStar), a: a})
}

// sizes returns the numbers of pieces of all trees; the children of a tree have smaller numbers.
func (f *forest) sizes() []float64 {
	l := make([]float64, len(f.trees))
	for k, x := range f.trees {
		l[k] = 1
		switch uint8(x.op) {
		case api.RxAlt, api.RxCat:
			l[k] += l[x.a] + l[x.b]
		case api.RxStar:
			l[k] += l[x.a]
		}
	}
	return l
}

// pieces appends the pieces of a tree to others.
func (f *forest) pieces(e api.Regex, k int) api.Regex {
	x := f.trees[k]
	p := api.Piece{Op: uint8(x.op)}
	switch p.Op {
	case api.RxLetter:
		p.Pos, p.Neg = uint8(x.letter), uint8(1<<f.vars-1-x.letter)
	case api.RxStar:
		e = f.pieces(e, x.a)
		p.A = len(e) - 1
	case api.RxAlt, api.RxCat:
		e = f.pieces(e, x.a)
		p.A = len(e) - 1
		e = f.pieces(e, x.b)
		p.B = len(e) - 1
	}
	return append(e, p)
}

// eliminationOf returns the elimination expression of an automaton, or ErrLong if it has too many pieces.
func eliminationOf(d api.DFA) (api.Regex, api.Errno) {
	m := dfatest.Minimized(d)
	f := &forest{vars: m.Vars, numbers: map[tree]int{}}
	known := map[[3]int]int{}
	var between func(s, t, k int) int
	between = func(s, t, k int) int {
		if r, found := known[[3]int{s, t, k}]; found {
			return r
		}
		r := f.leaf(api.RxNone)
		if k > 0 {
			again := f.star(between(k-1, k-1, k-1))
			way := f.cat(f.cat(between(s, k-1, k-1), again), between(k-1, t, k-1))
			r = f.alt(between(s, t, k-1), way)
		} else {
			if s == t {
				r = f.leaf(api.RxEmpty)
			}
			for x, to := range m.Next[s] {
				if to == t {
					r = f.alt(r, f.number(tree{op: int(api.RxLetter), letter: x}))
				}
			}
		}
		known[[3]int{s, t, k}] = r
		return r
	}
	whole := f.leaf(api.RxNone)
	for t, final := range m.Final {
		if final {
			whole = f.alt(whole, between(0, t, len(m.Next)))
		}
	}
	if f.sizes()[whole] > 64 {
		return nil, api.ErrLong
	}
	return f.pieces(nil, whole), api.OK
}
