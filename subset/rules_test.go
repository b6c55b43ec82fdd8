package subset_test

import (
	"math"
	"slices"
	"testing"

	"sentinel/api"
	"sentinel/internal/dfatest"
	"sentinel/nfa"
	"sentinel/subset"
)

// wildEdges returns a nondeterministic automaton that has few chances of being valid.
func (c *choice) wildEdges() api.NFA {
	n := c.nondeterministic(c.Below(3), c.Below(6), c.Below(8))
	switch c.Below(14) {
	case 0:
		n.Vars = []int{math.MinInt, -1, 7, math.MaxInt}[c.Below(4)]
	case 1:
		n.States = []int{math.MinInt, -1, 65, math.MaxInt}[c.Below(4)]
	case 2:
		n.Start = append(n.Start, c.Below(8)-1)
	case 3:
		n.Final = append(n.Final, c.Below(8)-1)
	case 4:
		n.Edges = append(n.Edges, api.Edge{From: c.Below(3) - 1, To: c.Below(8), Pos: uint8(c.Below(256)), Neg: uint8(c.Below(256))})
	case 5:
		n.Edges = make([]api.Edge, 513)
	case 6:
		n.Edges = append(n.Edges, api.Edge{Pos: 1, Neg: 1})
	}
	return n
}

// R1 and R2: no function panics, the error of Check comes first, and with an error there is no result.
func TestErrorsOfAnyAutomata(t *testing.T) {
	draw := choice{72}
	counts := map[api.Errno]int{}
	for range 20000 {
		d := draw.Wild()
		fault := dfatest.ErrorOf(d)
		counts[fault]++
		if e := subset.Check(d); e != fault {
			t.Errorf("Check(%v) = %d, want %d", d, e, fault)
		}
		w := make([]uint8, []int{0, 1, 2, 64, 65}[draw.Below(5)])
		for i := range w {
			w[i] = uint8(draw.Below(2) * draw.Below(6))
		}
		switch {
		case fault != api.OK:
			checkNoWord(t, d, w, fault)
			checkRenumber(t, d, api.DFA{}, fault)
			checkToNFA(t, d, api.NFA{}, fault)
			continue
		case len(w) > 64:
			checkNoWord(t, d, w, api.ErrLong)
		case slices.ContainsFunc(w, func(x uint8) bool { return int(x) >= 1<<d.Vars }):
			checkNoWord(t, d, w, api.ErrArg)
		default:
			k := dfatest.EndOf(d, d.Start, w)
			checkWord(t, d, w, k, d.Final[k])
		}
		checkRenumber(t, d, dfatest.Renumbered(d), api.OK)
		checkToNFA(t, d, nondeterministicOf(d), api.OK)
	}
	for _, e := range []api.Errno{api.OK, api.ErrForm, api.ErrShort, api.ErrVars, api.ErrState} {
		if counts[e] < 500 {
			t.Errorf("only %d automata have the error %d", counts[e], e)
		}
	}
}

func TestErrorsOfDeterminize(t *testing.T) {
	draw := choice{73}
	counts := map[api.Errno]int{}
	for range 5000 {
		n, budget := draw.wildEdges(), draw.Below(12)-2
		var want api.DFA
		var sets [][]int
		fault := nfa.Check(n)
		if fault == api.OK && budget < 1 {
			fault = api.ErrArg
		}
		if fault == api.OK {
			want, sets = determinizedOf(n, budget)
			if sets == nil {
				fault = api.ErrBudget
			}
		}
		counts[fault]++
		checkDeterminize(t, n, budget, want, sets, fault)
	}
	for _, e := range []api.Errno{api.OK, api.ErrArg, api.ErrForm, api.ErrLong, api.ErrVars, api.ErrState, api.ErrBudget} {
		if counts[e] < 20 {
			t.Errorf("only %d automata have the error %d", counts[e], e)
		}
	}
}

// R2: the automaton is checked before a word, and the length of a word before its letters.
func TestOrderOfErrors(t *testing.T) {
	d := flat(1, 2)
	long := slices.Repeat([]uint8{9}, 65)
	checkNoWord(t, d, long, api.ErrLong)
	checkNoWord(t, d, long[:64], api.ErrArg)
	checkNoWord(t, d, append(make([]uint8, 63), 2), api.ErrArg)
	checkNoWord(t, d, make([]uint8, 100000), api.ErrLong)
	checkWord(t, d, make([]uint8, 64), 0, false)
	d.Next[1][1] = 2
	checkNoWord(t, d, long, api.ErrState)
	checkNoWord(t, d, []uint8{9}, api.ErrState)
	checkToNFA(t, flat(7, 65), api.NFA{}, api.ErrVars)
	checkDeterminize(t, api.NFA{Vars: 7}, 0, api.DFA{}, nil, api.ErrVars)
	checkDeterminize(t, fromTheEnd(13, 1), 0, api.DFA{}, nil, api.ErrArg)
}

// R1: nil and empty slices are equivalent.
func TestNilIsEmpty(t *testing.T) {
	for _, rows := range [][][]int{nil, {}} {
		for _, final := range [][]bool{nil, {}} {
			if e := subset.Check(api.DFA{Next: rows, Final: final}); e != api.ErrShort {
				t.Errorf("Check without states = %d", e)
			}
		}
	}
	for _, w := range [][]uint8{nil, {}} {
		checkWord(t, line(3), w, 0, false)
	}
	want := api.DFA{Next: [][]int{{0}}, Final: []bool{false}}
	checkDeterminize(t, api.NFA{States: 1}, 1, want, [][]int{nil}, api.OK)
	checkDeterminize(t, api.NFA{States: 1, Start: []int{}, Final: []int{}, Edges: []api.Edge{}}, 1, want, [][]int{nil}, api.OK)
}

// paddedEdges returns an automaton with invalid elements in the memory behind its slices.
func paddedEdges(n api.NFA) api.NFA {
	n.Start = append(slices.Clone(n.Start), -1, 99)[:len(n.Start)]
	n.Final = append(slices.Clone(n.Final), 99, -1)[:len(n.Final)]
	n.Edges = append(slices.Clone(n.Edges), api.Edge{From: -1, To: 99, Pos: 255, Neg: 255})[:len(n.Edges)]
	return n
}

// wholeEdges returns a copy of an automaton with the memory behind its slices.
func wholeEdges(n api.NFA) api.NFA {
	n.Start, n.Final, n.Edges = n.Start[:cap(n.Start)], n.Final[:cap(n.Final)], n.Edges[:cap(n.Edges)]
	return copiedEdges(n)
}

// R3: arguments are not changed, and what is beyond their length is not read.
func TestArgumentsAreLeft(t *testing.T) {
	for _, s := range dfatest.Some(deterministicSamples(), 4) {
		d := dfatest.Padded(s.DFA)
		w := append(slices.Clone(s.words[len(s.words)-1]), 255, 1)
		before, word := dfatest.Whole(d), slices.Clone(w)
		k := dfatest.EndOf(s.DFA, s.Start, w[:len(w)-2])
		checkWord(t, d, w[:len(w)-2], k, s.Final[k])
		checkRenumber(t, d, dfatest.Renumbered(s.DFA), api.OK)
		if n, e := subset.ToNFA(s.DFA); e == api.OK {
			checkToNFA(t, d, n, api.OK)
		}
		if !dfatest.Same(dfatest.Whole(d), before) || !slices.Equal(w, word) {
			t.Errorf("the arguments %v and %d have become %v and %d", before, word, d, w)
		}
	}
	for _, s := range dfatest.Some(samples(), 4) {
		n := paddedEdges(s.NFA)
		before := wholeEdges(n)
		want, sets := determinizedOf(s.NFA, mostSets)
		checkDeterminize(t, n, mostSets, want, sets, api.OK)
		if !sameEdges(wholeEdges(n), before) {
			t.Errorf("the argument %v has become %v", before, n)
		}
	}
}

// checkRowsApart checks that no two of the given lists share memory, by changing all of them.
func checkRowsApart(t *testing.T, name string, l [][]int) {
	t.Helper()
	if !dfatest.Apart(l) {
		t.Errorf("%s: two lists share memory", name)
	}
}

// R3: the rows of a resulting automaton share no memory with an argument or with each other.
func TestRenumberSharesNoMemory(t *testing.T) {
	for _, s := range dfatest.Some(deterministicSamples(), 3) {
		d := dfatest.Copied(s.DFA)
		for k := range d.Next { // Sharing in the argument must not lead to sharing in the result.
			d.Next[k] = d.Next[0]
		}
		want := dfatest.Renumbered(d)
		first, _ := subset.Renumber(d)
		second, _ := subset.Renumber(d)
		before := dfatest.Copied(d)
		checkRowsApart(t, "Renumber", first.Next)
		dfatest.Overwrite(first.Final, true)
		dfatest.Overwrite(first.Next, nil)
		if !dfatest.Same(d, before) || !dfatest.Same(second, want) {
			t.Errorf("changing the result of Renumber changes the argument to %v or another result to %v", d, second)
		}
		dfatest.Overwrite(d.Next[0], -7)
		dfatest.Overwrite(d.Final, true)
		if !dfatest.Same(second, want) {
			t.Errorf("changing the argument of Renumber changes the result to %v", second)
		}
	}
}

// R3: the same for the lists of a resulting nondeterministic automaton.
func TestToNFASharesNoMemory(t *testing.T) {
	for _, s := range dfatest.Some(deterministicSamples(), 3) {
		d := dfatest.Copied(s.DFA)
		first, e := subset.ToNFA(d)
		if e != api.OK {
			continue
		}
		second, _ := subset.ToNFA(d)
		want := nondeterministicOf(d)
		checkRowsApart(t, "ToNFA", [][]int{first.Start, first.Final})
		dfatest.Overwrite(first.Edges, api.Edge{From: -7})
		if !dfatest.Same(d, s.DFA) || !sameEdges(second, want) {
			t.Errorf("changing the result of ToNFA changes the argument to %v or another result to %v", d, second)
		}
	}
}

// R3: the same for a subset automaton and its sets.
func TestDeterminizeSharesNoMemory(t *testing.T) {
	for _, s := range dfatest.Some(samples(), 3) {
		n := copiedEdges(s.NFA)
		n.Final = n.Start
		want, sets := determinizedOf(n, mostSets)
		before := copiedEdges(n)
		first, l, _ := subset.Determinize(n, mostSets)
		second, m, _ := subset.Determinize(n, mostSets)
		checkRowsApart(t, "Determinize", slices.Concat(first.Next, l))
		dfatest.Overwrite(first.Final, true)
		dfatest.Overwrite(first.Next, nil)
		dfatest.Overwrite(l, nil)
		if !sameEdges(n, before) || !dfatest.Same(second, want) || !dfatest.SameRows(m, sets) {
			t.Errorf("changing the result of Determinize changes the argument to %v or another result to %v, %d", n, second, m)
		}
		dfatest.Overwrite(n.Start, -7)
		dfatest.Overwrite(n.Edges, api.Edge{From: -7})
		if !dfatest.Same(second, want) || !dfatest.SameRows(m, sets) {
			t.Errorf("changing the argument of Determinize changes the result to %v, %d", second, m)
		}
	}
}

// P1: calls at the same time do not influence each other.
func TestParallelCalls(t *testing.T) {
	work := dfatest.Some(samples(), 8)
	done := make(chan bool)
	for k := range 4 {
		go func() {
			ok := true
			for i := range work {
				s := work[(i*7+k*50)%len(work)]
				want, sets := determinizedOf(s.NFA, mostSets)
				d, l, e := subset.Determinize(s.NFA, mostSets)
				r, f := subset.Renumber(d)
				ok = ok && e == api.OK && f == api.OK && dfatest.Same(d, want) && dfatest.Same(r, want) && dfatest.SameRows(l, sets)
			}
			done <- ok
		}()
	}
	for range 4 {
		if !<-done {
			t.Error("a call in parallel has another result")
		}
	}
}
