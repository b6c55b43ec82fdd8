package match_test

import (
	"math"
	"testing"

	"sentinel/api"
	"sentinel/cube"
	"sentinel/regex"
)

// The functions of this file are written without package match: an expression is built
// together with what it means, which is found by following matches from their first positions.

// set is a set of positions from 0 to 64.
type set [2]uint64

func (s set) has(k int) bool   { return s[k/64]>>(k%64)&1 == 1 }
func (s set) with(k int) set   { s[k/64] |= 1 << (k % 64); return s }
func (s set) plus(t set) set   { return set{s[0] | t[0], s[1] | t[1]} }
func (s set) common(t set) set { return set{s[0] & t[0], s[1] & t[1]} }
func (s set) minus(t set) set  { return set{s[0] &^ t[0], s[1] &^ t[1]} }
func (s set) isEmpty() bool    { return s == set{} }

// expression is a regular expression.
type expression struct {
	text       string
	pieces     int
	plain      bool
	standard   string                    // the same for package regexp, or "" if it cannot be said there
	ends       func(w []uint8) []set     // for each position, where the matches end that begin there
	empty      bool                      // whether a plain expression matches the empty word
	derivative func(x uint8) *expression // that of a plain expression
}

// eachPosition returns the sets that the given function has at the positions of a word.
func eachPosition(ends func(w []uint8, i int) set) func(w []uint8) []set {
	return func(w []uint8) []set {
		l := make([]set, len(w)+1)
		for i := range l {
			l[i] = ends(w, i)
		}
		return l
	}
}

// eachSet returns the sets that the given function makes of those of a.
func eachSet(a *expression, change func(below []set, i int) set) func(w []uint8) []set {
	return func(w []uint8) []set {
		below := a.ends(w)
		return eachPosition(func(w []uint8, i int) set { return change(below, i) })(w)
	}
}

func none() *expression {
	return &expression{
		text: "0", pieces: 1, plain: true,
		standard:   "[^\\x{0}-\\x{10FFFF}]",
		ends:       eachPosition(func([]uint8, int) set { return set{} }),
		derivative: func(uint8) *expression { return none() },
	}
}

func empty() *expression {
	return &expression{
		text: "1", pieces: 1, plain: true,
		standard:   "(?:)",
		ends:       eachPosition(func(_ []uint8, i int) set { return set{}.with(i) }),
		empty:      true,
		derivative: func(uint8) *expression { return none() },
	}
}

func letter(pos, neg uint8) *expression {
	literals, _ := cube.Format(api.Cube{Pos: pos, Neg: neg}, 6)
	in := func(x uint8) bool { return x|pos == x && x&neg == 0 }
	class := ""
	for x := range uint8(64) {
		if in(x) {
			class += string(standardLetter(x))
		}
	}
	return &expression{
		text: "[" + literals + "]", pieces: 1, plain: true,
		standard: "[" + class + "]",
		ends: eachPosition(func(w []uint8, i int) set {
			if i < len(w) && in(w[i]) {
				return set{}.with(i + 1)
			}
			return set{}
		}),
		derivative: func(x uint8) *expression {
			if in(x) {
				return empty()
			}
			return none()
		},
	}
}

func cat(a, b *expression) *expression {
	return &expression{
		text: "(" + a.text + "." + b.text + ")", pieces: a.pieces + b.pieces + 1, plain: a.plain && b.plain,
		standard: joined(a, "", b),
		ends: func(w []uint8) []set {
			after := b.ends(w)
			return eachSet(a, func(below []set, i int) set {
				var all set
				for k := range after {
					if below[i].has(k) {
						all = all.plus(after[k])
					}
				}
				return all
			})(w)
		},
		empty: a.empty && b.empty,
		derivative: func(x uint8) *expression {
			d := cat(a.derivative(x), b)
			if a.empty {
				return alt(d, b.derivative(x))
			}
			return d
		},
	}
}

func alt(a, b *expression) *expression {
	return &expression{
		text: "(" + a.text + "|" + b.text + ")", pieces: a.pieces + b.pieces + 1, plain: a.plain && b.plain,
		standard: joined(a, "|", b),
		ends: func(w []uint8) []set {
			other := b.ends(w)
			return eachSet(a, func(below []set, i int) set { return below[i].plus(other[i]) })(w)
		},
		empty:      a.empty || b.empty,
		derivative: func(x uint8) *expression { return alt(a.derivative(x), b.derivative(x)) },
	}
}

func and(a, b *expression) *expression {
	return &expression{
		text: "(" + a.text + "&" + b.text + ")", pieces: a.pieces + b.pieces + 1, plain: a.plain && b.plain,
		ends: func(w []uint8) []set {
			other := b.ends(w)
			return eachSet(a, func(below []set, i int) set { return below[i].common(other[i]) })(w)
		},
		empty:      a.empty && b.empty,
		derivative: func(x uint8) *expression { return and(a.derivative(x), b.derivative(x)) },
	}
}

func not(a *expression) *expression {
	return &expression{
		text: "(~" + a.text + ")", pieces: a.pieces + 1, plain: a.plain,
		ends: eachSet(a, func(below []set, i int) set {
			var all set
			for k := i; k < len(below); k++ {
				all = all.with(k)
			}
			return all.minus(below[i])
		}),
		empty:      !a.empty,
		derivative: func(x uint8) *expression { return not(a.derivative(x)) },
	}
}

func star(a *expression) *expression {
	e := &expression{
		text: "(" + a.text + "*)", pieces: a.pieces + 1, plain: a.plain,
		ends: eachSet(a, func(below []set, i int) set {
			reached := set{}.with(i)
			for k := i; k < len(below); k++ {
				if reached.has(k) {
					reached = reached.plus(below[k])
				}
			}
			return reached
		}),
		empty: true,
	}
	e.derivative = func(x uint8) *expression { return cat(a.derivative(x), e) }
	if a.standard != "" {
		e.standard = "(?:" + a.standard + ")*"
	}
	return e
}

func ahead(a *expression) *expression {
	return &expression{
		text: "(>" + a.text + ")", pieces: a.pieces + 1,
		ends: eachSet(a, func(below []set, i int) set {
			if below[i].isEmpty() {
				return set{}
			}
			return set{}.with(i)
		}),
	}
}

func behind(a *expression) *expression {
	return &expression{
		text: "(<" + a.text + ")", pieces: a.pieces + 1,
		ends: eachSet(a, func(below []set, i int) set {
			var all set
			for _, s := range below {
				all = all.plus(s)
			}
			return all.common(set{}.with(i))
		}),
	}
}

// joined returns the standard expression of two with an operator in between, or "" if one of them has none.
func joined(a *expression, operator string, b *expression) string {
	if a.standard == "" || b.standard == "" {
		return ""
	}
	return "(?:" + a.standard + operator + b.standard + ")"
}

// standardLetter returns the letter x for package regexp.
func standardLetter(x uint8) rune {
	return 0x100 + rune(x)
}

// parsed returns the pieces of a text.
func parsed(t *testing.T, text string, vars int) api.Regex {
	t.Helper()
	e, fault := regex.Parse(text, vars)
	if fault != api.OK {
		t.Fatalf("Parse(%q, %d) returned the error %d", text, vars, fault)
	}
	return e
}

// unary returns what the unary operators that may be applied to an expression make of it.
func unary(a *expression) []*expression {
	if !a.plain {
		return nil
	}
	return []*expression{not(a), star(a), ahead(a), behind(a)}
}

// binary returns what the binary operators that may be applied to two expressions make of them.
func binary(a, b *expression) []*expression {
	if !a.plain || !b.plain {
		return []*expression{cat(a, b), alt(a, b)}
	}
	return []*expression{cat(a, b), alt(a, b), and(a, b)}
}

// expressionsOf returns all expressions with n pieces in which each leaf is one of a few.
func expressionsOf(n int) []*expression {
	if n == 1 {
		return []*expression{none(), empty(), letter(0, 0), letter(1, 2)}
	}
	var l []*expression
	for _, a := range expressionsOf(n - 1) {
		l = append(l, unary(a)...)
	}
	for k := 1; k < n-1; k++ {
		for _, a := range expressionsOf(k) {
			for _, b := range expressionsOf(n - 1 - k) {
				l = append(l, binary(a, b)...)
			}
		}
	}
	return l
}

// wordsOf returns all words of at most n letters over vars variables.
func wordsOf(n, vars int) [][]uint8 {
	l := [][]uint8{nil}
	for done := 0; n > 0; n-- {
		rest := l[done:]
		done = len(l)
		for _, w := range rest {
			for x := range 1 << vars {
				l = append(l, append(append([]uint8{}, w...), uint8(x)))
			}
		}
	}
	return l
}

// choice is a source of numbers that is the same in each run.
type choice uint64

// below returns a number from 0 to n - 1.
func (c *choice) below(n int) int {
	*c = *c*6364136223846793005 + 1442695040888963407
	return int(uint64(*c) >> 33 % uint64(n))
}

// letter returns an expression for one letter, with few literals so that it matches often.
func (c *choice) letter(vars int) *expression {
	pos := c.below(1<<vars) & c.below(1<<vars) & c.below(1<<vars)
	neg := c.below(1<<vars) & c.below(1<<vars) & c.below(1<<vars) &^ pos
	return letter(uint8(pos), uint8(neg))
}

// expression returns an expression with n pieces over vars variables.
func (c *choice) expression(n, vars int, looks bool) *expression {
	switch {
	case n == 1 && c.below(8) > 0:
		return c.letter(vars)
	case n == 1:
		return []*expression{none(), empty()}[c.below(2)]
	case n == 2 || c.below(3) == 0:
		l := unary(c.expression(n-1, vars, false))
		if !looks {
			l = l[:2]
		}
		return l[c.below(len(l))]
	}
	k := 1 + c.below(n-2)
	op := c.below(5)
	looks = looks && op < 4
	l := binary(c.expression(k, vars, looks), c.expression(n-1-k, vars, looks))
	return l[[]int{0, 1, 0, 1, len(l) - 1}[op]]
}

// word returns a word of n letters over vars variables.
func (c *choice) word(n, vars int) []uint8 {
	w := make([]uint8, n)
	for i := range w {
		w[i] = uint8(c.below(1 << vars))
	}
	return w
}

// sample is an expression that is valid for vars variables, with words.
type sample struct {
	*expression
	vars  int
	words [][]uint8
}

// samples returns small expressions with all short words, and expressions of all sizes with some words.
func samples() []sample {
	var l []sample
	short := wordsOf(3, 2)
	for n := range 4 {
		for _, e := range expressionsOf(n + 1) {
			l = append(l, sample{e, 2, short})
		}
	}
	draw := choice(5)
	for n := range 64 {
		for vars := range 7 {
			for k := range 4 {
				e := draw.expression(n+1, vars, k%2 == 0)
				words := [][]uint8{nil, draw.word(draw.below(4), vars), draw.word(draw.below(9), vars)}
				if draw.below(20) == 0 {
					words = append(words, draw.word(60+draw.below(5), vars))
				}
				l = append(l, sample{e, vars, words})
			}
		}
	}
	return l
}

// noNumbersOfVars contains numbers of variables that no alphabet has.
func noNumbersOfVars() []int {
	return []int{math.MinInt, math.MinInt32, -64, -1, 7, 8, 63, 64, 1 << 32, 1<<32 + 2, math.MaxInt}
}
