package minimal_test

import (
	"math"
	"slices"
	"testing"

	"sentinel/api"
	"sentinel/internal/dfatest"
	"sentinel/minimal"
)

// The models of this file are written without packages subset and minimal, and without partitions: everything
// follows from the smallest words that distinguish pairs of states, which are found in the order of their lengths.

// distinction is the smallest word that distinguishes two states, if there is one.
type distinction struct {
	word []uint8
	is   bool
}

// distinctionsOf returns the distinctions of all pairs of states.
func distinctionsOf(d api.DFA) [][]distinction {
	table := make([][]distinction, len(d.Next))
	for s := range table {
		table[s] = make([]distinction, len(d.Next))
		for u := range table {
			table[s][u].is = d.Final[s] != d.Final[u]
		}
	}
	for length := 1; lengthen(d, table, length); length++ {
	}
	return table
}

// lengthen finds the distinctions with words of the given length, and reports whether there are any.
func lengthen(d api.DFA, table [][]distinction, length int) bool {
	some := false
	for s, row := range table {
		for u, old := range row {
			for x := range 1 << d.Vars {
				rest := table[d.Next[s][x]][d.Next[u][x]]
				if !old.is && rest.is && len(rest.word) == length-1 {
					row[u] = distinction{append([]uint8{uint8(x)}, rest.word...), true}
					some = true
					break
				}
			}
		}
	}
	return some
}

// roundsOf returns the classes of the states that no word of at most k letters distinguishes.
func roundsOf(table [][]distinction, k int) []int {
	l := make([]int, len(table))
	classes := 0
	for s, row := range table {
		first := slices.IndexFunc(row, func(x distinction) bool { return !x.is || len(x.word) > max(k, 0) })
		if first < s {
			l[s] = l[first]
		} else {
			l[s] = classes
			classes++
		}
	}
	return l
}

// classesOf returns the classes of equivalent states.
func classesOf(d api.DFA) []int {
	return roundsOf(distinctionsOf(d), math.MaxInt)
}

// minimizedOf returns the minimal automaton.
func minimizedOf(d api.DFA) api.DFA {
	class := classesOf(d)
	next := func(c int, x uint8) int { return class[d.Next[slices.Index(class, c)][x]] }
	l := dfatest.ByFirstVisit(class[d.Start], 1<<d.Vars, math.MaxInt, next)
	return dfatest.Numbered(d.Vars, l, next, func(c int) bool { return d.Final[slices.Index(class, c)] })
}

// imitation returns an automaton each of whose states behaves as the given state of d.
func imitation(draw *dfatest.Choice, d api.DFA, states []int) api.DFA {
	r := api.DFA{Vars: d.Vars, Start: draw.Below(len(states))}
	for _, s := range states {
		var row []int
		for _, to := range d.Next[s] {
			at := draw.Below(len(states))
			for states[at] != to {
				at = (at + 1) % len(states)
			}
			row = append(row, at)
		}
		r.Next, r.Final = append(r.Next, row), append(r.Final, d.Final[s])
	}
	return r
}

// imitated returns an automaton with several states for each state of d.
func imitated(draw *dfatest.Choice, d api.DFA, more int) api.DFA {
	var states []int
	for s := range d.Next {
		states = append(states, s)
	}
	for range more {
		states = slices.Insert(states, draw.Below(len(states)+1), draw.Below(len(d.Next)))
	}
	return imitation(draw, d, states)
}

// line returns an automaton in which each state leads to the next one, and the last one, which is final, to itself.
func line(vars, states int) api.DFA {
	d := api.DFA{Vars: vars, Final: make([]bool, states)}
	for s := range states {
		d.Next = append(d.Next, slices.Repeat([]int{min(s+1, states-1)}, 1<<vars))
	}
	d.Final[states-1] = true
	return d
}

// sample is a valid automaton with words.
type sample struct {
	api.DFA
	words [][]uint8
}

// samples returns automata of many sizes, with many and with few equivalent states.
func samples() []sample {
	draw := dfatest.Choice(81)
	var l []sample
	add := func(d api.DFA) { l = append(l, sample{d, draw.Words(d.Vars)}) }
	for _, d := range examples() {
		add(d)
	}
	for range 300 {
		add(draw.Automaton(draw.Below(3), 1+draw.Below(9)))
	}
	for range 40 {
		add(draw.Automaton(draw.Below(7), 1+draw.Below(40)))
	}
	for range 200 {
		add(imitated(&draw, draw.Automaton(draw.Below(3), 1+draw.Below(6)), draw.Below(12)))
	}
	for range 100 { // With one final state, and letters that mostly lead to the next state, words become long.
		d := line(draw.Below(3), 2+draw.Below(12))
		for range draw.Below(6) {
			d.Next[draw.Below(len(d.Next))][draw.Below(1<<d.Vars)] = draw.Below(len(d.Next))
		}
		add(imitated(&draw, d, draw.Below(8)))
	}
	return l
}

// examples returns the automata of the chapter.
func examples() []api.DFA {
	return []api.DFA{
		{Vars: 1, Next: [][]int{{1, 2}, {1, 2}, {2, 2}}, Final: []bool{true, true, false}},
		{Next: [][]int{{1}, {2}, {2}}, Final: []bool{false, false, true}},
	}
}

// some returns one of each so many samples.
func some(every int) []sample {
	var r []sample
	for i, s := range samples() {
		if i%every == 0 {
			r = append(r, s)
		}
	}
	return r
}

// checkMinimize checks Minimize; with an error it must return nothing else.
func checkMinimize(t *testing.T, d, want api.DFA, fault api.Errno) {
	t.Helper()
	if m, e := minimal.Minimize(d); e != fault || !dfatest.Same(m, want) {
		t.Errorf("Minimize(%v) = %v, %d, want %v, %d", d, m, e, want, fault)
	}
}

// checkClasses checks Classes; with an error it must return nothing else.
func checkClasses(t *testing.T, d api.DFA, want []int, fault api.Errno) {
	t.Helper()
	if l, e := minimal.Classes(d); e != fault || !slices.Equal(l, want) {
		t.Errorf("Classes(%v) = %d, %d, want %d, %d", d, l, e, want, fault)
	}
}

// checkRounds checks Rounds; with an error it must return nothing else.
func checkRounds(t *testing.T, d api.DFA, k int, want []int, fault api.Errno) {
	t.Helper()
	if l, e := minimal.Rounds(d, k); e != fault || !slices.Equal(l, want) {
		t.Errorf("Rounds(%v, %d) = %d, %d, want %d, %d", d, k, l, e, want, fault)
	}
}

// checkPair checks Distinguish and Equivalent; with an error they must return nothing else.
func checkPair(t *testing.T, d api.DFA, s, u int, want distinction, fault api.Errno) {
	t.Helper()
	if w, is, e := minimal.Distinguish(d, s, u); e != fault || is != want.is || !slices.Equal(w, want.word) {
		t.Errorf("Distinguish(%v, %d, %d) = %d, %t, %d, want %d, %t, %d", d, s, u, w, is, e, want.word, want.is, fault)
	}
	equivalent := fault == api.OK && !want.is
	if is, e := minimal.Equivalent(d, s, u); e != fault || is != equivalent {
		t.Errorf("Equivalent(%v, %d, %d) = %t, %d, want %t, %d", d, s, u, is, e, equivalent, fault)
	}
}

// checkFault checks that all functions return an error, the same whatever the other arguments are, and nothing else.
func checkFault(t *testing.T, d api.DFA, fault api.Errno) {
	t.Helper()
	checkMinimize(t, d, api.DFA{}, fault)
	checkClasses(t, d, nil, fault)
	for _, k := range []int{math.MinInt, -1, 0, 1, math.MaxInt} {
		checkRounds(t, d, k, nil, fault)
		checkPair(t, d, 0, k, distinction{}, fault)
		checkPair(t, d, k, 0, distinction{}, fault)
	}
}
