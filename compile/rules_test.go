package compile_test

import (
	"math"
	"slices"
	"testing"

	"sentinel/api"
	"sentinel/compile"
	"sentinel/internal/dfatest"
	"sentinel/regex"
)

// wildPieces returns an expression that has few chances of being valid.
func (c *choice) wildPieces() api.Regex {
	numbers := []int{math.MinInt, -1, 0, 1, 2, math.MaxInt}
	e := make(api.Regex, c.Below(5))
	for i := range e {
		e[i] = api.Piece{Op: uint8(c.Below(12)), A: max(0, i-1)}
		switch c.Below(5) {
		case 0, 1:
			e[i] = api.Piece{Op: api.RxNone + uint8(c.Below(3)), Pos: uint8(c.Below(4)), Neg: uint8(c.Below(4))}
		case 2:
			e[i].A, e[i].B = c.Below(4)-1, i-1
		case 3:
			e[i].B = numbers[c.Below(len(numbers))]
		}
	}
	return e
}

// R1 and R2: no function panics, the errors come in their order, and with an error there is no result.
func TestErrorsOfAnyExpressions(t *testing.T) {
	draw := choice{121}
	counts := map[api.Errno]int{}
	for range 60000 {
		s := sample{draw.wildPieces(), "", draw.Below(4) - 1}
		budget := []int{math.MinInt, 0, 1, 2, 3, 4096, 4097}[draw.Below(7)]
		w := make([]uint8, []int{0, 1, 2, 64, 65}[draw.Below(5)])
		for i := range w {
			w[i] = uint8(draw.Below(2) * draw.Below(2) * draw.Below(5))
		}
		fault := regex.Check(s.Regex, s.vars)
		if fault == api.OK && (budget < 1 || budget > 4096) {
			fault = api.ErrArg
		}
		counts[fault]++
		if fault != api.OK {
			checkFromRegex(t, s, budget, api.DFA{}, fault)
			checkAccepts(t, s, budget, w, false, fault)
			continue
		}
		want := s.automatonOf(t, 3)
		d, e := compile.FromRegex(s.Regex, s.vars, budget)
		switch {
		case e == api.OK && (len(want.Next) > budget || !dfatest.Same(d, want)):
			t.Errorf("FromRegex(%v, %d, %d) = %v, want %v", s.Regex, s.vars, budget, d, want)
		case e != api.OK:
			if e != api.ErrBudget || budget == 4096 {
				t.Errorf("FromRegex(%v, %d, %d) = %v, %d", s.Regex, s.vars, budget, d, e)
			}
			counts[e]++
			checkFromRegex(t, s, budget, api.DFA{}, e)
			checkAccepts(t, s, budget, w, false, e)
		case len(w) > 64:
			checkAccepts(t, s, budget, w, false, api.ErrLong)
		case slices.ContainsFunc(w, func(x uint8) bool { return int(x) >= 1<<s.vars }):
			checkAccepts(t, s, budget, w, false, api.ErrArg)
		default:
			checkAccepts(t, s, budget, w, s.accepts(t, w), api.OK)
		}
	}
	for _, e := range []api.Errno{api.OK, api.ErrArg, api.ErrForm, api.ErrShort, api.ErrKind, api.ErrVars, api.ErrState, api.ErrBudget} {
		if counts[e] < 100 {
			t.Errorf("only %d expressions have the error %d", counts[e], e)
		}
	}
}

func TestErrorsOfAnyAutomata(t *testing.T) {
	draw := choice{122}
	counts := map[api.Errno]int{}
	for range 20000 {
		d := draw.Wild()
		fault, want := dfatest.ErrorOf(d), api.Regex(nil)
		if fault == api.OK {
			want, fault = eliminationOf(d)
		}
		counts[fault]++
		checkToRegex(t, d, want, fault)
	}
	for _, e := range []api.Errno{api.OK, api.ErrForm, api.ErrShort, api.ErrLong, api.ErrVars, api.ErrState} {
		if counts[e] < 100 {
			t.Errorf("only %d automata have the error %d", counts[e], e)
		}
	}
	rows := make([][]int, 4097)
	checkToRegex(t, api.DFA{Vars: 7, Next: rows, Final: make([]bool, 4097)}, nil, api.ErrVars)
	checkToRegex(t, api.DFA{Vars: 1, Next: rows, Final: make([]bool, 4097)}, nil, api.ErrLong)
	checkToRegex(t, api.DFA{Vars: 1, Next: rows[:4096], Final: make([]bool, 4096)}, nil, api.ErrForm)
}

// R1: nil and empty slices are equivalent.
func TestNilIsEmpty(t *testing.T) {
	for _, e := range []api.Regex{nil, {}} {
		checkFromRegex(t, sample{e, "", 1}, 9, api.DFA{}, api.ErrShort)
		checkAccepts(t, sample{e, "", 1}, 9, nil, false, api.ErrShort)
	}
	for _, w := range [][]uint8{nil, {}} {
		checkAccepts(t, parsed(t, "([a]*)", 1), 9, w, true, api.OK)
	}
	for _, rows := range [][][]int{nil, {}} {
		for _, final := range [][]bool{nil, {}} {
			checkToRegex(t, api.DFA{Next: rows, Final: final}, nil, api.ErrShort)
		}
	}
}

// R3: arguments are not changed, and what is beyond their length is not read.
func TestArgumentsAreLeft(t *testing.T) {
	draw := choice{123}
	for _, s := range some(t, 3) {
		want, is := compiled(t, s)
		if !is {
			continue
		}
		pieces := append(slices.Clone(s.Regex), api.Piece{Op: 200, Pos: 9, Neg: 9, A: -5, B: 99}, api.Piece{Op: api.RxStar})
		word := append(draw.Word(draw.Below(9), s.vars), 255, 1)
		before, letters := slices.Clone(pieces), slices.Clone(word)
		padded := sample{pieces[:len(s.Regex)], s.text, s.vars}
		checkFromRegex(t, padded, 4096, want, api.OK)
		checkAccepts(t, padded, 4096, word[:len(word)-2], s.accepts(t, word[:len(word)-2]), api.OK)
		if !slices.Equal(pieces, before) || !slices.Equal(word, letters) {
			t.Errorf("the arguments %v and %d have become %v and %d", before, letters, pieces, word)
		}
	}
	for _, d := range dfatest.Some(automata(), 3) {
		want, fault := eliminationOf(d)
		padded := dfatest.Padded(d)
		before := dfatest.Whole(padded)
		checkToRegex(t, padded, want, fault)
		if !dfatest.Same(dfatest.Whole(padded), before) {
			t.Errorf("the argument %v has become %v", before, padded)
		}
	}
}

// R3: results share no memory with arguments, with other results, or within themselves.
func TestResultsShareNoMemory(t *testing.T) {
	for _, s := range append(some(t, 3), parsed(t, "0", 0), parsed(t, "[*]", 6), parsed(t, "(~0)", 2), parsed(t, "(>1)", 1)) {
		first, is := compiled(t, s)
		if !is {
			continue
		}
		want := dfatest.Copied(first)
		second, _ := compiled(t, s)
		if !dfatest.Apart(first.Next) {
			t.Errorf("rows of FromRegex(%q, %d) share memory", s.text, s.vars)
		}
		dfatest.Overwrite(first.Final, !want.Final[0])
		dfatest.Overwrite(first.Next, nil)
		if !dfatest.Same(second, want) || !slices.Equal(s.Regex, parsed(t, s.text, s.vars).Regex) {
			t.Errorf("changing the automaton of %q changes another one to %v or the argument to %v", s.text, second, s.Regex)
		}
		checkFromRegex(t, s, 4096, want, api.OK)
	}
	for _, d := range dfatest.Some(automata(), 3) {
		want, fault := eliminationOf(d)
		before := dfatest.Copied(d)
		first, _ := compile.ToRegex(d)
		second, _ := compile.ToRegex(d)
		dfatest.Overwrite(first, api.Piece{Op: 77, Pos: 77, Neg: 77, A: 77, B: 77})
		if !slices.Equal(second, want) || !dfatest.Same(d, before) {
			t.Errorf("changing the expression of %v changes another one to %v or the argument to %v", before, second, d)
		}
		checkToRegex(t, d, want, fault)
	}
}

// P1: calls at the same time do not influence each other.
func TestParallelCalls(t *testing.T) {
	var work []sample
	var automataOf []api.DFA
	for _, s := range some(t, 4) {
		if d, is := compiled(t, s); is {
			work, automataOf = append(work, s), append(automataOf, d)
		}
	}
	done := make(chan bool)
	for k := range 4 {
		go func() {
			ok := true
			for i := range work {
				at := (i*7 + k*50) % len(work)
				d, e := compile.FromRegex(work[at].Regex, work[at].vars, 4096)
				ok = ok && e == api.OK && dfatest.Same(d, automataOf[at])
				r, f := compile.ToRegex(d)
				if len(d.Next) < 10 {
					want, fault := eliminationOf(d)
					ok = ok && f == fault && slices.Equal(r, want)
				}
			}
			done <- ok
		}()
	}
	for range 4 {
		if !<-done {
			t.Error("a call in parallel has another result")
		}
	}
}
