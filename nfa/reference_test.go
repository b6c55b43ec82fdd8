package nfa_test

import (
	"math"
	"slices"
	"testing"

	"sentinel/api"
	"sentinel/nfa"
)

// The functions of this file are written without packages bitset, cube and nfa: paths are followed
// backwards from their ends, and reachable states are found by closing a matrix transitively.

// row contains for each state whether it has a property.
type row [api.MaxStates]bool

// matrix contains for each pair of states whether it has a property.
type matrix [api.MaxStates]row

// rowOf returns the row in which the given states have the property.
func rowOf(l []int) row {
	var r row
	for _, s := range l {
		r[s] = true
	}
	return r
}

// common reports whether some state has both properties.
func (r row) common(t row) bool {
	for s := range r {
		if r[s] && t[s] {
			return true
		}
	}
	return false
}

// list returns the states that have the property.
func (r row) list() []int {
	var l []int
	for s, is := range r {
		if is {
			l = append(l, s)
		}
	}
	return l
}

// set returns the states that have the property as a set in canonical form.
func (r row) set() api.Set {
	var w uint64
	for s, is := range r {
		if is {
			w += 1 << s
		}
	}
	if w == 0 {
		return nil
	}
	return api.Set{w}
}

// matches reports whether an edge matches the letter x over vars variables.
func matches(e api.Edge, vars int, x uint8) bool {
	for k := range vars {
		switch {
		case e.Pos>>k%2 == 1 && x>>k%2 == 0, e.Neg>>k%2 == 1 && x>>k%2 == 1:
			return false
		}
	}
	return true
}

// before returns the states from which a word leads to a state of the given row.
func before(n api.NFA, w []uint8, r row) row {
	for i := len(w) - 1; i >= 0; i-- {
		var earlier row
		for _, e := range n.Edges {
			if r[e.To] && matches(e, n.Vars, w[i]) {
				earlier[e.From] = true
			}
		}
		r = earlier
	}
	return r
}

// accepts reports whether an automaton accepts a word.
func accepts(n api.NFA, w []uint8) bool {
	return before(n, w, rowOf(n.Final)).common(rowOf(n.Start))
}

// endsOf returns the states to which a word leads from the given ones.
func endsOf(n api.NFA, from row, w []uint8) row {
	var r row
	for s := range n.States {
		r[s] = before(n, w, rowOf([]int{s})).common(from)
	}
	return r
}

// joined contains for each pair of states whether some word leads from the first to the second.
func joined(n api.NFA) *matrix {
	var m matrix
	for s := range n.States {
		m[s][s] = true
	}
	for _, e := range n.Edges {
		m[e.From][e.To] = true
	}
	for k := range n.States {
		for i := range n.States {
			for j := range n.States {
				m[i][j] = m[i][j] || m[i][k] && m[k][j]
			}
		}
	}
	return &m
}

// usesOf returns the reachable and the productive states.
func usesOf(n api.NFA) (reachable, productive row) {
	m, start, final := joined(n), rowOf(n.Start), rowOf(n.Final)
	for i := range n.States {
		for j := range n.States {
			reachable[j] = reachable[j] || start[i] && m[i][j]
			productive[i] = productive[i] || m[i][j] && final[j]
		}
	}
	return reachable, productive
}

// trimmedOf returns the automaton of the useful states.
func trimmedOf(n api.NFA) api.NFA {
	reachable, productive := usesOf(n)
	t := api.NFA{Vars: n.Vars}
	number := map[int]int{}
	for s := range n.States {
		if reachable[s] && productive[s] {
			number[s] = t.States
			t.States++
		}
	}
	for s := range n.States {
		if k, is := number[s]; is && slices.Contains(n.Start, s) {
			t.Start = append(t.Start, k)
		}
		if k, is := number[s]; is && slices.Contains(n.Final, s) {
			t.Final = append(t.Final, k)
		}
	}
	for _, e := range n.Edges {
		from, isFrom := number[e.From]
		if to, isTo := number[e.To]; isFrom && isTo {
			e.From, e.To = from, to
			t.Edges = append(t.Edges, e)
		}
	}
	return t
}

// errorOf returns what is invalid about an automaton: of all that is, what comes first in the order of the chapter.
func errorOf(n api.NFA) api.Errno {
	first, fault := math.MaxInt, api.OK
	found := func(is bool, rank int, e api.Errno) {
		if is && rank < first {
			first, fault = rank, e
		}
	}
	isNoState := func(s int) bool { return s < 0 || s >= n.States }
	bits := 0 // that a letter does not have
	for k := max(0, n.Vars); k < 8; k++ {
		bits += 1 << k
	}
	for i, e := range n.Edges {
		found(int(e.Pos)&bits > 0 || int(e.Neg)&bits > 0, 3*i+11, api.ErrVars)
		found(e.Pos&e.Neg > 0, 3*i+12, api.ErrForm)
		found(isNoState(e.To) || isNoState(e.From), 3*i+10, api.ErrState)
	}
	for _, l := range [][]int{n.Final, n.Start} {
		found(slices.ContainsFunc(l, isNoState), 4, api.ErrState)
		for i := 1; i < len(l); i++ {
			found(l[i] <= l[i-1], 4, api.ErrState)
		}
	}
	found(n.States > 64, 3, api.ErrLong)
	found(len(n.Edges) > 512, 3, api.ErrLong)
	found(n.States < 0, 2, api.ErrArg)
	found(n.Vars > 6 || n.Vars < 0, 1, api.ErrVars)
	return fault
}

// same reports whether two automata are equal.
func same(a, b api.NFA) bool {
	return a.Vars == b.Vars && a.States == b.States && slices.Equal(a.Start, b.Start) &&
		slices.Equal(a.Final, b.Final) && slices.Equal(a.Edges, b.Edges)
}

// copied returns an automaton with memory of its own.
func copied(n api.NFA) api.NFA {
	n.Start, n.Final, n.Edges = slices.Clone(n.Start), slices.Clone(n.Final), slices.Clone(n.Edges)
	return n
}

// backwards returns a word reversed.
func backwards(w []uint8) []uint8 {
	w = slices.Clone(w)
	slices.Reverse(w)
	return w
}

// wordsOf returns all words of at most n letters over vars variables.
func wordsOf(n, vars int) [][]uint8 {
	l := [][]uint8{nil}
	for i := 0; len(l[i]) < n; i++ {
		for x := range 1 << vars {
			l = append(l, append(slices.Clone(l[i]), uint8(x)))
		}
	}
	return l
}

// choice is a source of numbers that is the same in each run.
type choice uint64

// below returns a number from 0 to n - 1.
func (c *choice) below(n int) int {
	*c = *c*6364136223846793005 + 1442695040888963407
	return int(uint64(*c) >> 33 % uint64(n))
}

// states returns an ascending list of about one state of n in every so many.
func (c *choice) states(n, every int) []int {
	var l []int
	for s := range n {
		if c.below(every) == 0 {
			l = append(l, s)
		}
	}
	return l
}

// edge returns an edge between states below n, with few literals so that it matches often.
func (c *choice) edge(n, vars int) api.Edge {
	pos := c.below(1<<vars) & c.below(1<<vars)
	neg := c.below(1<<vars) & c.below(1<<vars) &^ pos
	return api.Edge{From: c.below(n), To: c.below(n), Pos: uint8(pos), Neg: uint8(neg)}
}

// automaton returns a valid automaton.
func (c *choice) automaton(vars, states, edges int) api.NFA {
	n := api.NFA{Vars: vars, States: states}
	n.Start, n.Final = c.states(states, 1+states/2), c.states(states, 1+states/3)
	if states > 0 {
		for range edges {
			n.Edges = append(n.Edges, c.edge(states, vars))
		}
	}
	return n
}

// word returns a word of n letters over vars variables.
func (c *choice) word(n, vars int) []uint8 {
	w := make([]uint8, n)
	for i := range w {
		w[i] = uint8(c.below(1 << vars))
	}
	return w
}

// sample is a valid automaton with words.
type sample struct {
	api.NFA
	words [][]uint8
}

// second returns the automaton of the words over one variable whose second to last letter is 1.
func second() api.NFA {
	return api.NFA{
		Vars: 1, States: 3, Start: []int{0}, Final: []int{2},
		Edges: []api.Edge{{From: 0, To: 0}, {From: 0, To: 1, Pos: 1}, {From: 1, To: 2}},
	}
}

// chain returns the automaton with 64 states that accepts the words of 63 letters, its edges in no helpful order.
func chain() api.NFA {
	n := api.NFA{Vars: 6, States: 64, Start: []int{63}, Final: []int{0}}
	for s := range 63 {
		n.Edges = append(n.Edges, api.Edge{From: s + 1, To: s})
	}
	return n
}

// samples returns automata of all sizes with some words, among them all short ones over few variables.
func samples() []sample {
	l := []sample{
		{second(), wordsOf(6, 1)},
		{chain(), [][]uint8{make([]uint8, 62), make([]uint8, 63), make([]uint8, 64)}},
	}
	draw := choice(6)
	for range 300 {
		vars, states := draw.below(3), draw.below(6)
		l = append(l, sample{draw.automaton(vars, states, draw.below(2*states+1)), wordsOf(3, vars)})
	}
	for range 300 {
		vars, states := draw.below(7), draw.below(65)
		n := draw.automaton(vars, states, draw.below([]int{32, 256, 513}[draw.below(3)]))
		l = append(l, sample{n, [][]uint8{nil, draw.word(1, vars), draw.word(2, vars), draw.word(draw.below(12), vars), draw.word(60+draw.below(5), vars)}})
	}
	return l
}

// someSamples returns one of each so many samples.
func someSamples(every int) []sample {
	var l []sample
	for i, s := range samples() {
		if i%every == 0 {
			l = append(l, s)
		}
	}
	return l
}

// checkRun checks Run and Accepts.
func checkRun(t *testing.T, n api.NFA, w []uint8, want row, accepted bool) {
	t.Helper()
	if s, e := nfa.Run(n, w); e != api.OK || !slices.Equal(s, want.set()) {
		t.Errorf("Run(%v, %d) = %x, %d, want %x", n, w, s, e, want.set())
	}
	if is, e := nfa.Accepts(n, w); e != api.OK || is != accepted {
		t.Errorf("Accepts(%v, %d) = %t, %d, want %t", n, w, is, e, accepted)
	}
}

// checkSet checks a set and an error.
func checkSet(t *testing.T, name string, n api.NFA, s api.Set, e api.Errno, want row) {
	t.Helper()
	if e != api.OK || !slices.Equal(s, want.set()) {
		t.Errorf("%s of %v = %x, %d, want %x", name, n, s, e, want.set())
	}
}

// checkAutomaton checks an automaton and an error.
func checkAutomaton(t *testing.T, name string, n api.NFA, e api.Errno, want api.NFA) {
	t.Helper()
	if e != api.OK || !same(n, want) {
		t.Errorf("%s is %v, %d, want %v", name, n, e, want)
	}
}

// checkNone checks that there is an error and no automaton.
func checkNone(t *testing.T, name string, n api.NFA, e, want api.Errno) {
	t.Helper()
	if e != want || !same(n, api.NFA{}) {
		t.Errorf("%s is %v, %d, want the error %d", name, n, e, want)
	}
}
