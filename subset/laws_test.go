package subset_test

import (
	"slices"
	"testing"

	"sentinel/api"
	"sentinel/bitset"
	"sentinel/internal/dfatest"
	"sentinel/nfa"
	"sentinel/subset"
)

// accepted returns what Accepts returns without an error.
func accepted(t *testing.T, d api.DFA, w []uint8) bool {
	t.Helper()
	is, e := subset.Accepts(d, w)
	if e != api.OK {
		t.Fatalf("Accepts(%v, %d) returned the error %d", d, w, e)
	}
	return is
}

// run returns what Run returns without an error.
func run(t *testing.T, d api.DFA, w []uint8) int {
	t.Helper()
	s, e := subset.Run(d, w)
	if e != api.OK {
		t.Fatalf("Run(%v, %d) returned the error %d", d, w, e)
	}
	return s
}

// renumber returns what Renumber returns without an error.
func renumber(t *testing.T, d api.DFA) api.DFA {
	t.Helper()
	r, e := subset.Renumber(d)
	if e != api.OK {
		t.Fatalf("Renumber(%v) returned the error %d", d, e)
	}
	return r
}

// determinize returns what Determinize returns without an error.
func determinize(t *testing.T, n api.NFA) (api.DFA, [][]int) {
	t.Helper()
	d, sets, e := subset.Determinize(n, api.MaxComputed)
	if e != api.OK {
		t.Fatalf("Determinize(%v) returned the error %d", n, e)
	}
	return d, sets
}

// P7.4

func TestSubsetAutomataAcceptTheSameWords(t *testing.T) {
	for _, s := range samples() {
		d, sets := determinize(t, s.NFA)
		for _, w := range s.words {
			is, e := nfa.Accepts(s.NFA, w)
			if e != api.OK || accepted(t, d, w) != is {
				t.Errorf("%v accepts %d: %t, %d, and its subset automaton %t", s.NFA, w, is, e, !is)
			}
			l, e := nfa.Run(s.NFA, w)
			if k := run(t, d, w); e != api.OK || !slices.Equal(sets[k], bitset.List(l)) {
				t.Errorf("%d leads in %v to %d, and in its subset automaton to %d", w, s.NFA, bitset.List(l), sets[k])
			}
		}
	}
}

func TestSubsetAutomataGoOnAsAfter(t *testing.T) {
	for _, s := range dfatest.Some(samples(), 3) {
		d, sets := determinize(t, s.NFA)
		for k, row := range d.Next {
			for x, to := range row {
				l, e := nfa.After(s.NFA, bitset.Of(sets[k]...), uint8(x))
				if e != api.OK || !slices.Equal(sets[to], bitset.List(l)) {
					t.Errorf("%d leads in %v from %d to %d, and in its subset automaton to %d", x, s.NFA, sets[k], bitset.List(l), sets[to])
				}
			}
		}
	}
}

func TestSubsetAutomataHaveFewStates(t *testing.T) {
	for _, s := range samples() {
		d, sets := determinize(t, s.NFA)
		if len(d.Next) != len(sets) || s.States < 12 && len(sets) > 1<<s.States {
			t.Errorf("%v has %d states, and its subset automaton %d", s.NFA, s.States, len(d.Next))
		}
		for i, l := range sets {
			for _, m := range sets[:i] {
				if slices.Equal(l, m) {
					t.Errorf("two states of the subset automaton of %v stand for %d", s.NFA, l)
				}
			}
		}
	}
}

// P7.5

func TestRenumberingPreservesWords(t *testing.T) {
	for _, s := range deterministicSamples() {
		r := renumber(t, s.DFA)
		for _, w := range s.words {
			if is, want := accepted(t, r, w), accepted(t, s.DFA, w); is != want {
				t.Errorf("%v accepts %d: %t, but renumbered %t", s.DFA, w, want, is)
			}
		}
		if again := renumber(t, r); !dfatest.Same(again, r) {
			t.Errorf("%v renumbered is %v, and renumbered again %v", s.DFA, r, again)
		}
	}
}

func TestNFAsOfAutomata(t *testing.T) {
	converted := 0
	for _, s := range deterministicSamples() {
		n, e := subset.ToNFA(s.DFA)
		if e != api.OK {
			continue
		}
		converted++
		for _, w := range s.words {
			is, e := nfa.Accepts(n, w)
			if e != api.OK || accepted(t, s.DFA, w) != is {
				t.Errorf("%v accepts %d: %t, and its NFA %t, %d", s.DFA, w, !is, is, e)
			}
		}
		d, sets := determinize(t, n)
		if want := renumber(t, s.DFA); !dfatest.Same(d, want) {
			t.Errorf("the NFA of %v determinized is %v, but renumbered it is %v", s.DFA, d, want)
		}
		if slices.ContainsFunc(sets, func(l []int) bool { return len(l) != 1 }) {
			t.Errorf("the sets of the NFA of %v are %d", s.DFA, sets)
		}
	}
	if converted < 300 {
		t.Errorf("only %d automata are small", converted)
	}
}

func TestSubsetAutomataAreNumberedByFirstVisit(t *testing.T) {
	for _, s := range samples() {
		d, _ := determinize(t, s.NFA)
		if r := renumber(t, d); !dfatest.Same(r, d) {
			t.Errorf("the subset automaton of %v is %v, but renumbered %v", s.NFA, d, r)
		}
	}
}

// P7.6

func TestRunsCanBeContinued(t *testing.T) {
	for _, s := range deterministicSamples() {
		for i, w := range s.words {
			k := i % (len(w) + 1)
			rest := s.DFA
			rest.Start = run(t, s.DFA, w[:k])
			if whole, parts := run(t, s.DFA, w), run(t, rest, w[k:]); whole != parts {
				t.Errorf("Run(%v, %d) = %d, but %d if it is continued after %d letters", s.DFA, w, whole, parts, k)
			}
		}
	}
}
