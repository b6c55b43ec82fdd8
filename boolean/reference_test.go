package boolean_test

import (
	"math"
	"slices"
	"testing"

	"sentinel/api"
	"sentinel/boolean"
	"sentinel/internal/dfatest"
)

// The models of this file are written without packages subset, minimal and boolean.

// operation is a function that combines two automata.
type operation struct {
	name    string
	combine func(a, b api.DFA) (api.DFA, api.Errno)
	accepts [2][2]bool // whether it accepts a word, by how many of a and of b do
}

// operations returns the functions that combine two automata.
func operations() []operation {
	return []operation{
		{"And", boolean.And, [2][2]bool{{false, false}, {false, true}}},
		{"Or", boolean.Or, [2][2]bool{{false, true}, {true, true}}},
		{"Xor", boolean.Xor, [2][2]bool{{false, true}, {true, false}}},
		{"Minus", boolean.Minus, [2][2]bool{{false, false}, {true, false}}},
	}
}

// index returns 1 for true.
func index(is bool) int {
	if is {
		return 1
	}
	return 0
}

// of returns whether the operation accepts a word.
func (o operation) of(inA, inB bool) bool {
	return o.accepts[index(inA)][index(inB)]
}

// and and minus are two of the operations.
func and() operation   { return operations()[0] }
func minus() operation { return operations()[3] }

// productOf returns the automaton of the reachable pairs.
func productOf(o operation, a, b api.DFA) api.DFA {
	next := func(k [2]int, x uint8) [2]int { return [2]int{a.Next[k[0]][x], b.Next[k[1]][x]} }
	l := dfatest.ByFirstVisit([2]int{a.Start, b.Start}, 1<<a.Vars, math.MaxInt, next)
	return dfatest.Numbered(a.Vars, l, next, func(k [2]int) bool { return o.of(a.Final[k[0]], b.Final[k[1]]) })
}

// combinedOf returns the minimal automaton of an operation.
func combinedOf(o operation, a, b api.DFA) api.DFA {
	return dfatest.Minimized(productOf(o, a, b))
}

// complementOf returns the minimal automaton of the words that d does not accept.
func complementOf(d api.DFA) api.DFA {
	return combinedOf(minus(), dfatest.Constant(d.Vars, true), d)
}

// allOf returns the minimal automaton of the words that all of the automata accept.
func allOf(vars int, l []api.DFA) api.DFA {
	m := dfatest.Constant(vars, true)
	for _, d := range l {
		m = combinedOf(and(), m, d)
	}
	return m
}

// missingOf returns the smallest word that a accepts and b does not: it distinguishes the
// start state of their difference from a state that accepts nothing.
func missingOf(a, b api.DFA) dfatest.Distinction {
	d := combinedOf(minus(), a, b)
	nothing := len(d.Next)
	d.Next = append(d.Next, slices.Repeat([]int{nothing}, 1<<d.Vars))
	d.Final = append(d.Final, false)
	return dfatest.Distinctions(d)[d.Start][nothing]
}

// faultOf returns what is invalid about two automata.
func faultOf(a, b api.DFA) api.Errno {
	for _, e := range []api.Errno{dfatest.ErrorOf(a), dfatest.ErrorOf(b)} {
		if e != api.OK {
			return e
		}
	}
	if a.Vars != b.Vars {
		return api.ErrVars
	}
	return api.OK
}

// sample is a pair of valid automata over the same variables, with words.
type sample struct {
	a, b  api.DFA
	words [][]uint8
}

// one returns the automaton of the words over one variable that begin with 1.
func one() api.DFA {
	return api.DFA{Vars: 1, Next: [][]int{{2, 1}, {1, 1}, {2, 2}}, Final: []bool{false, true, false}}
}

// even returns the automaton of the words over one variable that have even length.
func even() api.DFA {
	return api.DFA{Vars: 1, Next: [][]int{{1, 1}, {0, 0}}, Final: []bool{true, false}}
}

// samples returns pairs of automata with all relations between their languages.
func samples() []sample {
	draw := dfatest.Choice(91)
	var l []sample
	add := func(a, b api.DFA) { l = append(l, sample{a, b, draw.Words(a.Vars)}) }
	add(one(), even())
	add(even(), one())
	for range 400 {
		vars := draw.Below(3)
		add(draw.Automaton(vars, 1+draw.Below(7)), draw.Automaton(vars, 1+draw.Below(7)))
	}
	for range 60 {
		vars := draw.Below(7)
		add(draw.Automaton(vars, 1+draw.Below(5)), draw.Automaton(vars, 1+draw.Below(5)))
	}
	for range 80 { // equal, included in one another, and almost equal
		vars := draw.Below(3)
		a, b := draw.Automaton(vars, 1+draw.Below(5)), draw.Automaton(vars, 1+draw.Below(5))
		both := productOf(and(), a, b)
		add(a, draw.Enlarged(a, draw.Below(5)))
		add(draw.Enlarged(both, 1), b)
		add(a, draw.Enlarged(both, 2))
		add(a, draw.Enlarged(draw.Changed(a), draw.Below(5)))
	}
	for range 300 { // with letters that mostly lead to the next state, the smallest words become long
		d := dfatest.Line(draw.Below(3), 2+draw.Below(10))
		d.Final[draw.Below(len(d.Next))] = true
		for range draw.Below(3) {
			d = draw.Changed(d)
		}
		add(d, draw.Enlarged(draw.Changed(d), draw.Below(4)))
	}
	return l
}

// some returns one of each so many samples.
func some(every int) []sample {
	return dfatest.Some(samples(), every)
}

// checkNot checks Not; with an error it must return nothing else.
func checkNot(t *testing.T, d, want api.DFA, fault api.Errno) {
	t.Helper()
	if m, e := boolean.Not(d); e != fault || !dfatest.Same(m, want) {
		t.Errorf("Not(%v) = %v, %d, want %v, %d", d, m, e, want, fault)
	}
}

// checkCombined checks an operation; with an error it must return nothing else.
func checkCombined(t *testing.T, o operation, a, b, want api.DFA, fault api.Errno) {
	t.Helper()
	if m, e := o.combine(a, b); e != fault || !dfatest.Same(m, want) {
		t.Errorf("%s(%v, %v) = %v, %d, want %v, %d", o.name, a, b, m, e, want, fault)
	}
}

// checkIncluded checks Included; with an error it must return nothing else, and with true no word.
func checkIncluded(t *testing.T, a, b api.DFA, missing dfatest.Distinction, fault api.Errno) {
	t.Helper()
	included := fault == api.OK && !missing.Is
	if w, is, e := boolean.Included(a, b); e != fault || is != included || !slices.Equal(w, missing.Word) {
		t.Errorf("Included(%v, %v) = %d, %t, %d, want %d, %t, %d", a, b, w, is, e, missing.Word, included, fault)
	}
}

// checkEqual checks Equal; with an error it must return nothing else.
func checkEqual(t *testing.T, a, b api.DFA, want bool, fault api.Errno) {
	t.Helper()
	if is, e := boolean.Equal(a, b); e != fault || is != want {
		t.Errorf("Equal(%v, %v) = %t, %d, want %t, %d", a, b, is, e, want, fault)
	}
}

// checkAll checks All; with an error it must return nothing else.
func checkAll(t *testing.T, vars int, l []api.DFA, want api.DFA, fault api.Errno) {
	t.Helper()
	if m, e := boolean.All(vars, l...); e != fault || !dfatest.Same(m, want) {
		t.Errorf("All(%d, %v) = %v, %d, want %v, %d", vars, l, m, e, want, fault)
	}
}

// checkFault checks that all functions with two automata return an error and nothing else.
func checkFault(t *testing.T, a, b api.DFA, fault api.Errno) {
	t.Helper()
	for _, o := range operations() {
		checkCombined(t, o, a, b, api.DFA{}, fault)
	}
	checkIncluded(t, a, b, dfatest.Distinction{}, fault)
	checkEqual(t, a, b, false, fault)
}
