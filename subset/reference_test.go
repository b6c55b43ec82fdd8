package subset_test

import (
	"math"
	"slices"
	"testing"

	"sentinel/api"
	"sentinel/subset"
)

// The functions of this file are written without packages bitset, cube, nfa and subset: numbering by
// first visit is found by sorting states by the smallest words that lead to them.

// set contains for each state of a nondeterministic automaton whether it is in the set.
type set [api.MaxStates]bool

// setOf returns the set of the given states.
func setOf(l []int) set {
	var s set
	for _, k := range l {
		s[k] = true
	}
	return s
}

// list returns the states of the set.
func (s set) list() []int {
	var l []int
	for k, is := range s {
		if is {
			l = append(l, k)
		}
	}
	return l
}

// matches reports whether an edge matches the letter x.
func matches(e api.Edge, x uint8) bool {
	for k := range 8 {
		switch {
		case e.Pos>>k%2 == 1 && x>>k%2 == 0, e.Neg>>k%2 == 1 && x>>k%2 == 1:
			return false
		}
	}
	return true
}

// after returns the set to which the letter x leads from s.
func after(n api.NFA, s set, x uint8) set {
	var r set
	for _, e := range n.Edges {
		r[e.To] = r[e.To] || s[e.From] && matches(e, x)
	}
	return r
}

// compareWords compares words by length first.
func compareWords(v, w []uint8) int {
	if len(v) != len(w) {
		return len(v) - len(w)
	}
	return slices.Compare(v, w)
}

// byFirstVisit returns what words lead to, sorted by the smallest words, or nil if that is more than most things.
func byFirstVisit[K comparable](start K, letters, most int, next func(k K, x uint8) K) []K {
	words := map[K][]uint8{start: nil}
	reached := []K{start}
	for changed := true; changed; {
		changed = false
		for _, k := range reached {
			for x := range letters {
				w := append(slices.Clone(words[k]), uint8(x))
				to := next(k, uint8(x))
				old, known := words[to]
				if !known {
					reached = append(reached, to)
				}
				if !known || compareWords(w, old) < 0 {
					words[to], changed = w, true
				}
			}
		}
		if len(reached) > most {
			return nil
		}
	}
	slices.SortFunc(reached, func(a, b K) int { return compareWords(words[a], words[b]) })
	return reached
}

// numbered returns the automaton of the given things, the first of which is the start.
func numbered[K comparable](vars int, l []K, next func(k K, x uint8) K, final func(k K) bool) api.DFA {
	d := api.DFA{Vars: vars}
	for _, k := range l {
		var row []int
		for x := range 1 << vars {
			row = append(row, slices.Index(l, next(k, uint8(x))))
		}
		d.Next, d.Final = append(d.Next, row), append(d.Final, final(k))
	}
	return d
}

// determinizedOf returns the subset automaton and the sets of its states, or nothing if there are more than most.
func determinizedOf(n api.NFA, most int) (api.DFA, [][]int) {
	next := func(s set, x uint8) set { return after(n, s, x) }
	l := byFirstVisit(setOf(n.Start), 1<<n.Vars, most, next)
	if l == nil {
		return api.DFA{}, nil
	}
	var sets [][]int
	for _, s := range l {
		sets = append(sets, s.list())
	}
	final := setOf(n.Final)
	return numbered(n.Vars, l, next, func(s set) bool {
		return slices.ContainsFunc(s.list(), func(k int) bool { return final[k] })
	}), sets
}

// renumberedOf returns the automaton of the reachable states.
func renumberedOf(d api.DFA) api.DFA {
	next := func(s int, x uint8) int { return d.Next[s][x] }
	l := byFirstVisit(d.Start, 1<<d.Vars, math.MaxInt, next)
	return numbered(d.Vars, l, next, func(s int) bool { return d.Final[s] })
}

// nondeterministicOf returns the automaton with one edge for each state and letter.
func nondeterministicOf(d api.DFA) api.NFA {
	n := api.NFA{Vars: d.Vars, States: len(d.Next), Start: []int{d.Start}}
	for s := range d.Next {
		for x := range 1 << d.Vars {
			e := api.Edge{From: s, To: d.Next[s][x]}
			for k := range d.Vars {
				if x>>k%2 == 1 {
					e.Pos += 1 << k
				} else {
					e.Neg += 1 << k
				}
			}
			n.Edges = append(n.Edges, e)
		}
	}
	for s, is := range d.Final {
		if is {
			n.Final = append(n.Final, s)
		}
	}
	return n
}

// endOf returns the state to which a word leads from s.
func endOf(d api.DFA, s int, w []uint8) int {
	if len(w) == 0 {
		return s
	}
	return endOf(d, d.Next[s][w[0]], w[1:])
}

// errorOf returns what is invalid about an automaton: of all that is, what comes first in the order of the chapter.
func errorOf(d api.DFA) api.Errno {
	first, fault := math.MaxInt, api.OK
	found := func(is bool, rank int, e api.Errno) {
		if is && rank < first {
			first, fault = rank, e
		}
	}
	isNoState := func(s int) bool { return s < 0 || s >= len(d.Next) }
	letters := math.Pow(2, float64(d.Vars))
	for i := len(d.Next) - 1; i >= 0; i-- {
		found(slices.ContainsFunc(d.Next[i], isNoState), 2*i+11, api.ErrState)
		found(float64(len(d.Next[i])) != letters, 2*i+10, api.ErrForm)
	}
	found(isNoState(d.Start), 5, api.ErrState)
	found(len(d.Final) != len(d.Next), 4, api.ErrForm)
	found(len(d.Next) > 4096, 3, api.ErrLong)
	found(len(d.Next) < 1, 2, api.ErrShort)
	found(d.Vars < 0 || d.Vars > 6, 1, api.ErrVars)
	return fault
}

// same reports whether two deterministic automata are equal.
func same(a, b api.DFA) bool {
	return a.Vars == b.Vars && a.Start == b.Start && sameRows(a.Next, b.Next) && slices.Equal(a.Final, b.Final)
}

// sameRows reports whether two lists of rows or sets are equal.
func sameRows(a, b [][]int) bool {
	return slices.EqualFunc(a, b, slices.Equal)
}

// sameEdges reports whether two nondeterministic automata are equal.
func sameEdges(a, b api.NFA) bool {
	return a.Vars == b.Vars && a.States == b.States && slices.Equal(a.Start, b.Start) &&
		slices.Equal(a.Final, b.Final) && slices.Equal(a.Edges, b.Edges)
}

// copied returns an automaton with memory of its own.
func copied(d api.DFA) api.DFA {
	d.Next, d.Final = slices.Clone(d.Next), slices.Clone(d.Final)
	for s, row := range d.Next {
		d.Next[s] = slices.Clone(row)
	}
	return d
}

// copiedEdges returns a nondeterministic automaton with memory of its own.
func copiedEdges(n api.NFA) api.NFA {
	n.Start, n.Final, n.Edges = slices.Clone(n.Start), slices.Clone(n.Final), slices.Clone(n.Edges)
	return n
}

// wordsOf returns all words of at most n letters over vars variables, those with fewer letters first.
func wordsOf(n, vars int) [][]uint8 {
	l := [][]uint8{nil}
	for i := 0; len(l[i]) < n; i++ {
		for x := range 1 << vars {
			l = append(l, append(slices.Clone(l[i]), uint8(x)))
		}
	}
	return l
}

// choice is a source of numbers that is the same in each run.
type choice uint64

// below returns a number from 0 to n - 1.
func (c *choice) below(n int) int {
	*c = *c*6364136223846793005 + 1442695040888963407
	return int(uint64(*c) >> 33 % uint64(n))
}

// states returns an ascending list of about one state of n in every so many.
func (c *choice) states(n, every int) []int {
	var l []int
	for s := range n {
		if c.below(every) == 0 {
			l = append(l, s)
		}
	}
	return l
}

// word returns a word of n letters over vars variables.
func (c *choice) word(n, vars int) []uint8 {
	w := make([]uint8, n)
	for i := range w {
		w[i] = uint8(c.below(1 << vars))
	}
	return w
}

// words returns all short words over few variables, or some words over more of them.
func (c *choice) words(vars int) [][]uint8 {
	if vars < 3 {
		return wordsOf(7-2*vars, vars)
	}
	return [][]uint8{nil, c.word(1, vars), c.word(2, vars), c.word(c.below(12), vars), c.word(64, vars)}
}

// nondeterministic returns a valid automaton with edges that have few literals, so that they match often.
func (c *choice) nondeterministic(vars, states, edges int) api.NFA {
	n := api.NFA{Vars: vars, States: states}
	n.Start, n.Final = c.states(states, 1+states/2), c.states(states, 1+states/3)
	for range min(edges, edges*states) {
		pos := c.below(1<<vars) & c.below(1<<vars)
		neg := c.below(1<<vars) & c.below(1<<vars) &^ pos
		n.Edges = append(n.Edges, api.Edge{From: c.below(states), To: c.below(states), Pos: uint8(pos), Neg: uint8(neg)})
	}
	return n
}

// deterministic returns a valid automaton; many of its states are unreachable if the letters lead to few.
func (c *choice) deterministic(vars, states int) api.DFA {
	d := api.DFA{Vars: vars, Start: c.below(states)}
	targets := []int{c.below(states)}
	for range c.below(2 * states) {
		targets = append(targets, c.below(states))
	}
	for range states {
		var row []int
		for range 1 << vars {
			row = append(row, targets[c.below(len(targets))])
		}
		d.Next, d.Final = append(d.Next, row), append(d.Final, c.below(3) == 0)
	}
	return d
}

// sample is a valid nondeterministic automaton with words.
type sample struct {
	api.NFA
	words [][]uint8
}

// second returns the automaton of the words over one variable whose second to last letter is 1.
func second() api.NFA {
	return fromTheEnd(2, 1)
}

// fromTheEnd returns the automaton of the words in which letter k from the end contains variable 0; its
// subset automaton has 2^k states.
func fromTheEnd(k, vars int) api.NFA {
	n := api.NFA{Vars: vars, States: k + 1, Start: []int{0}, Final: []int{k}, Edges: []api.Edge{{}, {To: 1, Pos: 1}}}
	for s := 1; s < k; s++ {
		n.Edges = append(n.Edges, api.Edge{From: s, To: s + 1})
	}
	return n
}

// mostSets is the greatest number of states of the subset automata of the samples.
const mostSets = 200

// samples returns nondeterministic automata of all sizes with subset automata of at most mostSets states.
func samples() []sample {
	draw := choice(7)
	l := []sample{{second(), draw.words(1)}, {fromTheEnd(6, 3), draw.words(3)}, {api.NFA{}, draw.words(0)}}
	add := func(n api.NFA) {
		if _, sets := determinizedOf(n, mostSets); sets != nil {
			l = append(l, sample{n, draw.words(n.Vars)})
		}
	}
	for range 300 {
		vars, states := draw.below(3), draw.below(7)
		add(draw.nondeterministic(vars, states, draw.below(2*states+1)))
	}
	for range 150 {
		vars, states := draw.below(7), draw.below(65)
		add(draw.nondeterministic(vars, states, draw.below(1+states*2)))
	}
	for range 100 { // Few edges beyond those of a deterministic automaton lead to many sets.
		vars, states := 1+draw.below(2), 4+draw.below(6)
		n := nondeterministicOf(draw.deterministic(vars, states))
		n.Edges = append(n.Edges, draw.nondeterministic(vars, states, 1+draw.below(4)).Edges...)
		add(n)
	}
	for range 10 {
		add(draw.nondeterministic(draw.below(7), 1+draw.below(7), 512))
	}
	return l
}

// deterministicSample is a valid deterministic automaton with words.
type deterministicSample struct {
	api.DFA
	words [][]uint8
}

// deterministicSamples returns deterministic automata of many sizes.
func deterministicSamples() []deterministicSample {
	draw := choice(71)
	example := api.DFA{Start: 2, Next: [][]int{{1}, {1}, {0}}, Final: []bool{true, false, false}}
	l := []deterministicSample{{example, draw.words(0)}}
	add := func(vars, states int) {
		l = append(l, deterministicSample{draw.deterministic(vars, states), draw.words(vars)})
	}
	for range 300 {
		add(draw.below(3), 1+draw.below(9))
	}
	for range 100 {
		add(draw.below(7), 1+draw.below(70))
	}
	return l
}

// some returns one of each so many things.
func some[T any](l []T, every int) []T {
	var r []T
	for i := 0; i < len(l); i += every {
		r = append(r, l[i])
	}
	return r
}

// checkWord checks Run and Accepts.
func checkWord(t *testing.T, d api.DFA, w []uint8, state int, accepted bool) {
	t.Helper()
	if s, e := subset.Run(d, w); e != api.OK || s != state {
		t.Errorf("Run(%v, %d) = %d, %d, want %d", d, w, s, e, state)
	}
	if is, e := subset.Accepts(d, w); e != api.OK || is != accepted {
		t.Errorf("Accepts(%v, %d) = %t, %d, want %t", d, w, is, e, accepted)
	}
}

// checkNoWord checks that Run and Accepts return an error and nothing else.
func checkNoWord(t *testing.T, d api.DFA, w []uint8, want api.Errno) {
	t.Helper()
	if s, e := subset.Run(d, w); e != want || s != 0 {
		t.Errorf("Run(%v, %d) = %d, %d, want the error %d", d, w, s, e, want)
	}
	if is, e := subset.Accepts(d, w); e != want || is {
		t.Errorf("Accepts(%v, %d) = %t, %d, want the error %d", d, w, is, e, want)
	}
}

// checkRenumber checks Renumber; with an error it must return nothing else.
func checkRenumber(t *testing.T, d, want api.DFA, fault api.Errno) {
	t.Helper()
	if r, e := subset.Renumber(d); e != fault || !same(r, want) {
		t.Errorf("Renumber(%v) = %v, %d, want %v, %d", d, r, e, want, fault)
	}
}

// checkToNFA checks ToNFA; with an error it must return nothing else.
func checkToNFA(t *testing.T, d api.DFA, want api.NFA, fault api.Errno) {
	t.Helper()
	if n, e := subset.ToNFA(d); e != fault || !sameEdges(n, want) {
		t.Errorf("ToNFA(%v) = %v, %d, want %v, %d", d, n, e, want, fault)
	}
}

// checkDeterminize checks Determinize; with an error it must return nothing else.
func checkDeterminize(t *testing.T, n api.NFA, budget int, want api.DFA, sets [][]int, fault api.Errno) {
	t.Helper()
	d, l, e := subset.Determinize(n, budget)
	if e != fault || !same(d, want) || !sameRows(l, sets) {
		t.Errorf("Determinize(%v, %d) = %v, %d, %d, want %v, %d, %d", n, budget, d, l, e, want, sets, fault)
	}
}
