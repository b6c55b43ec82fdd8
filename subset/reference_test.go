package subset_test

import (
	"slices"
	"testing"

	"sentinel/api"
	"sentinel/internal/dfatest"
	"sentinel/subset"
)

// The models of this file are written without packages bitset, cube, nfa and subset.

// set contains for each state of a nondeterministic automaton whether it is in the set.
type set [api.MaxStates]bool

// setOf returns the set of the given states.
func setOf(l []int) set {
	var s set
	for _, k := range l {
		s[k] = true
	}
	return s
}

// list returns the states of the set.
func (s set) list() []int {
	var l []int
	for k, is := range s {
		if is {
			l = append(l, k)
		}
	}
	return l
}

// matches reports whether an edge matches the letter x.
func matches(e api.Edge, x uint8) bool {
	for k := range 8 {
		switch {
		case e.Pos>>k%2 == 1 && x>>k%2 == 0, e.Neg>>k%2 == 1 && x>>k%2 == 1:
			return false
		}
	}
	return true
}

// after returns the set to which the letter x leads from s.
func after(n api.NFA, s set, x uint8) set {
	var r set
	for _, e := range n.Edges {
		r[e.To] = r[e.To] || s[e.From] && matches(e, x)
	}
	return r
}

// determinizedOf returns the subset automaton and the sets of its states, or nothing if there are more than most.
func determinizedOf(n api.NFA, most int) (api.DFA, [][]int) {
	next := func(s set, x uint8) set { return after(n, s, x) }
	l := dfatest.ByFirstVisit(setOf(n.Start), 1<<n.Vars, most, next)
	if l == nil {
		return api.DFA{}, nil
	}
	var sets [][]int
	for _, s := range l {
		sets = append(sets, s.list())
	}
	final := setOf(n.Final)
	return dfatest.Numbered(n.Vars, l, next, func(s set) bool {
		return slices.ContainsFunc(s.list(), func(k int) bool { return final[k] })
	}), sets
}

// nondeterministicOf returns the automaton with one edge for each state and letter.
func nondeterministicOf(d api.DFA) api.NFA {
	n := api.NFA{Vars: d.Vars, States: len(d.Next), Start: []int{d.Start}}
	for s := range d.Next {
		for x := range 1 << d.Vars {
			e := api.Edge{From: s, To: d.Next[s][x]}
			for k := range d.Vars {
				if x>>k%2 == 1 {
					e.Pos += 1 << k
				} else {
					e.Neg += 1 << k
				}
			}
			n.Edges = append(n.Edges, e)
		}
	}
	for s, is := range d.Final {
		if is {
			n.Final = append(n.Final, s)
		}
	}
	return n
}

// sameEdges reports whether two nondeterministic automata are equal.
func sameEdges(a, b api.NFA) bool {
	return a.Vars == b.Vars && a.States == b.States && slices.Equal(a.Start, b.Start) &&
		slices.Equal(a.Final, b.Final) && slices.Equal(a.Edges, b.Edges)
}

// copiedEdges returns a nondeterministic automaton with memory of its own.
func copiedEdges(n api.NFA) api.NFA {
	n.Start, n.Final, n.Edges = slices.Clone(n.Start), slices.Clone(n.Final), slices.Clone(n.Edges)
	return n
}

// choice is a source of nondeterministic automata as well.
type choice struct{ dfatest.Choice }

// states returns an ascending list of about one state of n in every so many.
func (c *choice) states(n, every int) []int {
	var l []int
	for s := range n {
		if c.Below(every) == 0 {
			l = append(l, s)
		}
	}
	return l
}

// nondeterministic returns a valid automaton with edges that have few literals, so that they match often.
func (c *choice) nondeterministic(vars, states, edges int) api.NFA {
	n := api.NFA{Vars: vars, States: states}
	n.Start, n.Final = c.states(states, 1+states/2), c.states(states, 1+states/3)
	for range min(edges, edges*states) {
		pos := c.Below(1<<vars) & c.Below(1<<vars)
		neg := c.Below(1<<vars) & c.Below(1<<vars) &^ pos
		n.Edges = append(n.Edges, api.Edge{From: c.Below(states), To: c.Below(states), Pos: uint8(pos), Neg: uint8(neg)})
	}
	return n
}

// sample is a valid nondeterministic automaton with words.
type sample struct {
	api.NFA
	words [][]uint8
}

// second returns the automaton of the words over one variable whose second to last letter is 1.
func second() api.NFA {
	return fromTheEnd(2, 1)
}

// fromTheEnd returns the automaton of the words in which letter k from the end contains variable 0; its
// subset automaton has 2^k states.
func fromTheEnd(k, vars int) api.NFA {
	n := api.NFA{Vars: vars, States: k + 1, Start: []int{0}, Final: []int{k}, Edges: []api.Edge{{}, {To: 1, Pos: 1}}}
	for s := 1; s < k; s++ {
		n.Edges = append(n.Edges, api.Edge{From: s, To: s + 1})
	}
	return n
}

// mostSets is the greatest number of states of the subset automata of the samples.
const mostSets = 200

// samples returns nondeterministic automata of all sizes with subset automata of at most mostSets states.
func samples() []sample {
	draw := choice{7}
	l := []sample{{second(), draw.Words(1)}, {fromTheEnd(6, 3), draw.Words(3)}, {api.NFA{}, draw.Words(0)}}
	add := func(n api.NFA) {
		if _, sets := determinizedOf(n, mostSets); sets != nil {
			l = append(l, sample{n, draw.Words(n.Vars)})
		}
	}
	for range 300 {
		vars, states := draw.Below(3), draw.Below(7)
		add(draw.nondeterministic(vars, states, draw.Below(2*states+1)))
	}
	for range 150 {
		vars, states := draw.Below(7), draw.Below(65)
		add(draw.nondeterministic(vars, states, draw.Below(1+states*2)))
	}
	for range 100 { // Few edges beyond those of a deterministic automaton lead to many sets.
		vars, states := 1+draw.Below(2), 4+draw.Below(6)
		n := nondeterministicOf(draw.Automaton(vars, states))
		n.Edges = append(n.Edges, draw.nondeterministic(vars, states, 1+draw.Below(4)).Edges...)
		add(n)
	}
	for range 10 {
		add(draw.nondeterministic(draw.Below(7), 1+draw.Below(7), 512))
	}
	return l
}

// deterministicSample is a valid deterministic automaton with words.
type deterministicSample struct {
	api.DFA
	words [][]uint8
}

// deterministicSamples returns deterministic automata of many sizes.
func deterministicSamples() []deterministicSample {
	draw := choice{71}
	example := api.DFA{Start: 2, Next: [][]int{{1}, {1}, {0}}, Final: []bool{true, false, false}}
	l := []deterministicSample{{example, draw.Words(0)}}
	add := func(vars, states int) {
		l = append(l, deterministicSample{draw.Automaton(vars, states), draw.Words(vars)})
	}
	for range 300 {
		add(draw.Below(3), 1+draw.Below(9))
	}
	for range 100 {
		add(draw.Below(7), 1+draw.Below(70))
	}
	return l
}

// checkWord checks Run and Accepts.
func checkWord(t *testing.T, d api.DFA, w []uint8, state int, accepted bool) {
	t.Helper()
	if s, e := subset.Run(d, w); e != api.OK || s != state {
		t.Errorf("Run(%v, %d) = %d, %d, want %d", d, w, s, e, state)
	}
	if is, e := subset.Accepts(d, w); e != api.OK || is != accepted {
		t.Errorf("Accepts(%v, %d) = %t, %d, want %t", d, w, is, e, accepted)
	}
}

// checkNoWord checks that Run and Accepts return an error and nothing else.
func checkNoWord(t *testing.T, d api.DFA, w []uint8, want api.Errno) {
	t.Helper()
	if s, e := subset.Run(d, w); e != want || s != 0 {
		t.Errorf("Run(%v, %d) = %d, %d, want the error %d", d, w, s, e, want)
	}
	if is, e := subset.Accepts(d, w); e != want || is {
		t.Errorf("Accepts(%v, %d) = %t, %d, want the error %d", d, w, is, e, want)
	}
}

// checkRenumber checks Renumber; with an error it must return nothing else.
func checkRenumber(t *testing.T, d, want api.DFA, fault api.Errno) {
	t.Helper()
	if r, e := subset.Renumber(d); e != fault || !dfatest.Same(r, want) {
		t.Errorf("Renumber(%v) = %v, %d, want %v, %d", d, r, e, want, fault)
	}
}

// checkToNFA checks ToNFA; with an error it must return nothing else.
func checkToNFA(t *testing.T, d api.DFA, want api.NFA, fault api.Errno) {
	t.Helper()
	if n, e := subset.ToNFA(d); e != fault || !sameEdges(n, want) {
		t.Errorf("ToNFA(%v) = %v, %d, want %v, %d", d, n, e, want, fault)
	}
}

// checkDeterminize checks Determinize; with an error it must return nothing else.
func checkDeterminize(t *testing.T, n api.NFA, budget int, want api.DFA, sets [][]int, fault api.Errno) {
	t.Helper()
	d, l, e := subset.Determinize(n, budget)
	if e != fault || !dfatest.Same(d, want) || !dfatest.SameRows(l, sets) {
		t.Errorf("Determinize(%v, %d) = %v, %d, %d, want %v, %d, %d", n, budget, d, l, e, want, sets, fault)
	}
}
