package minimal_test

import (
	"math"
	"slices"
	"testing"

	"sentinel/api"
	"sentinel/internal/dfatest"
	"sentinel/minimal"
)

// by returns the distinction by a word.
func by(w []uint8) dfatest.Distinction {
	return dfatest.Distinction{Word: w, Is: true}
}

// imitated returns an automaton with several states for each state of d; it starts in any of them.
func imitated(draw *dfatest.Choice, d api.DFA, more int) api.DFA {
	r, _ := draw.Imitated(d, more)
	return r
}

// sample is a valid automaton with words.
type sample struct {
	api.DFA
	words [][]uint8
}

// samples returns automata of many sizes, with many and with few equivalent states.
func samples() []sample {
	draw := dfatest.Choice(81)
	var l []sample
	add := func(d api.DFA) { l = append(l, sample{d, draw.Words(d.Vars)}) }
	for _, d := range examples() {
		add(d)
	}
	for range 300 {
		add(draw.Automaton(draw.Below(3), 1+draw.Below(9)))
	}
	for range 40 {
		add(draw.Automaton(draw.Below(7), 1+draw.Below(40)))
	}
	for range 200 {
		add(imitated(&draw, draw.Automaton(draw.Below(3), 1+draw.Below(6)), draw.Below(12)))
	}
	for range 100 { // With one final state, and letters that mostly lead to the next state, words become long.
		d := dfatest.Line(draw.Below(3), 2+draw.Below(12))
		for range draw.Below(6) {
			d.Next[draw.Below(len(d.Next))][draw.Below(1<<d.Vars)] = draw.Below(len(d.Next))
		}
		add(imitated(&draw, d, draw.Below(8)))
	}
	return l
}

// examples returns the automata of the chapter.
func examples() []api.DFA {
	return []api.DFA{
		{Vars: 1, Next: [][]int{{1, 2}, {1, 2}, {2, 2}}, Final: []bool{true, true, false}},
		{Next: [][]int{{1}, {2}, {2}}, Final: []bool{false, false, true}},
	}
}

// some returns one of each so many samples.
func some(every int) []sample {
	return dfatest.Some(samples(), every)
}

// checkMinimize checks Minimize; with an error it must return nothing else.
func checkMinimize(t *testing.T, d, want api.DFA, fault api.Errno) {
	t.Helper()
	if m, e := minimal.Minimize(d); e != fault || !dfatest.Same(m, want) {
		t.Errorf("Minimize(%v) = %v, %d, want %v, %d", d, m, e, want, fault)
	}
}

// checkClasses checks Classes; with an error it must return nothing else.
func checkClasses(t *testing.T, d api.DFA, want []int, fault api.Errno) {
	t.Helper()
	if l, e := minimal.Classes(d); e != fault || !slices.Equal(l, want) {
		t.Errorf("Classes(%v) = %d, %d, want %d, %d", d, l, e, want, fault)
	}
}

// checkRounds checks Rounds; with an error it must return nothing else.
func checkRounds(t *testing.T, d api.DFA, k int, want []int, fault api.Errno) {
	t.Helper()
	if l, e := minimal.Rounds(d, k); e != fault || !slices.Equal(l, want) {
		t.Errorf("Rounds(%v, %d) = %d, %d, want %d, %d", d, k, l, e, want, fault)
	}
}

// checkPair checks Distinguish and Equivalent; with an error they must return nothing else.
func checkPair(t *testing.T, d api.DFA, s, u int, want dfatest.Distinction, fault api.Errno) {
	t.Helper()
	if w, is, e := minimal.Distinguish(d, s, u); e != fault || is != want.Is || !slices.Equal(w, want.Word) {
		t.Errorf("Distinguish(%v, %d, %d) = %d, %t, %d, want %d, %t, %d", d, s, u, w, is, e, want.Word, want.Is, fault)
	}
	equivalent := fault == api.OK && !want.Is
	if is, e := minimal.Equivalent(d, s, u); e != fault || is != equivalent {
		t.Errorf("Equivalent(%v, %d, %d) = %t, %d, want %t, %d", d, s, u, is, e, equivalent, fault)
	}
}

// checkFault checks that all functions return an error, the same whatever the other arguments are, and nothing else.
func checkFault(t *testing.T, d api.DFA, fault api.Errno) {
	t.Helper()
	checkMinimize(t, d, api.DFA{}, fault)
	checkClasses(t, d, nil, fault)
	for _, k := range []int{math.MinInt, -1, 0, 1, math.MaxInt} {
		checkRounds(t, d, k, nil, fault)
		checkPair(t, d, 0, k, dfatest.Distinction{}, fault)
		checkPair(t, d, k, 0, dfatest.Distinction{}, fault)
	}
}
