package nfa_test

import (
	"slices"
	"testing"

	"sentinel/api"
	"sentinel/bitset"
	"sentinel/nfa"
)

// accepted returns what Accepts returns without an error.
func accepted(t *testing.T, n api.NFA, w []uint8) bool {
	t.Helper()
	is, e := nfa.Accepts(n, w)
	if e != api.OK {
		t.Fatalf("Accepts(%v, %d) returned the error %d", n, w, e)
	}
	return is
}

// run returns what Run returns without an error.
func run(t *testing.T, n api.NFA, w []uint8) api.Set {
	t.Helper()
	s, e := nfa.Run(n, w)
	if e != api.OK {
		t.Fatalf("Run(%v, %d) returned the error %d", n, w, e)
	}
	return s
}

// after returns what After returns without an error.
func after(t *testing.T, n api.NFA, s api.Set, x uint8) api.Set {
	t.Helper()
	r, e := nfa.After(n, s, x)
	if e != api.OK {
		t.Fatalf("After(%v, %x, %d) returned the error %d", n, s, x, e)
	}
	return r
}

// must returns a function that returns an automaton that comes without an error.
func must(t *testing.T) func(n api.NFA, e api.Errno) api.NFA {
	return func(n api.NFA, e api.Errno) api.NFA {
		t.Helper()
		if e != api.OK {
			t.Fatalf("the error is %d", e)
		}
		return n
	}
}

// extended returns an automaton with unreachable states before and after its own.
func extended(draw *choice, n api.NFA) api.NFA {
	first, last := draw.below(3), 1+draw.below(3)
	m := unionOf(api.NFA{Vars: n.Vars, States: first}, n)
	m.States += last
	added := func(s int) bool { return s < first || s >= first+n.States }
	for s := range m.States {
		if added(s) && draw.below(2) == 0 {
			m.Final = append(m.Final, s)
		}
	}
	slices.Sort(m.Final)
	for range 3 * (first + last) {
		if x := draw.edge(m.States, n.Vars); added(x.From) && len(m.Edges) < 512 {
			m.Edges = append(m.Edges, x)
		}
	}
	return m
}

// P6.4

func TestUselessStatesDoNotChangeTheWords(t *testing.T) {
	draw := choice(64)
	for _, s := range samples() {
		trimmed := must(t)(nfa.Trim(s.NFA))
		for _, w := range s.words {
			if is, want := accepted(t, trimmed, w), accepted(t, s.NFA, w); is != want {
				t.Errorf("%v accepts %d: %t, but trimmed %t", s.NFA, w, want, is)
			}
		}
		if s.States > 59 {
			continue
		}
		larger := extended(&draw, s.NFA)
		for _, w := range s.words {
			if is, want := accepted(t, larger, w), accepted(t, s.NFA, w); is != want {
				t.Errorf("%v accepts %d: %t, but with unreachable states %t", s.NFA, w, want, is)
			}
		}
	}
}

func TestReversedAutomataAcceptReversedWords(t *testing.T) {
	for _, s := range samples() {
		r := must(t)(nfa.Reverse(s.NFA))
		for _, w := range s.words {
			if is, want := accepted(t, r, backwards(w)), accepted(t, s.NFA, w); is != want {
				t.Errorf("%v accepts %d: %t, but reversed %t", s.NFA, w, want, is)
			}
		}
		if again := must(t)(nfa.Reverse(r)); !same(again, s.NFA) {
			t.Errorf("%v reversed twice is %v", s.NFA, again)
		}
	}
}

func TestUnionsAcceptTheWordsOfBoth(t *testing.T) {
	both, neither := 0, 0
	l := samples()
	for i, a := range l {
		for _, b := range []sample{a, l[(i+1)%len(l)], l[(5*i+3)%len(l)]} {
			u, e := nfa.Union(a.NFA, b.NFA)
			if e != api.OK {
				continue
			}
			for _, w := range append(slices.Clone(a.words), b.words...) {
				first, second := accepted(t, a.NFA, w), accepted(t, b.NFA, w)
				if is := accepted(t, u, w); is != (first || second) {
					t.Errorf("%v accepts %d: %t, %v %t, and their union %t", a.NFA, w, first, b.NFA, second, is)
				}
				switch {
				case first && second:
					both++
				case !first && !second:
					neither++
				}
			}
		}
	}
	if both == 0 || neither == 0 {
		t.Errorf("%d words are accepted by both automata, %d by neither", both, neither)
	}
}

// P6.5

func TestAfterIsAdditive(t *testing.T) {
	draw := choice(65)
	for _, s := range samples() {
		for range 4 {
			a, b := bitset.Of(draw.states(s.States, 3)...), bitset.Of(draw.states(s.States, 4)...)
			x := draw.word(1, s.Vars)[0]
			union := after(t, s.NFA, bitset.Union(a, b), x)
			if parts := bitset.Union(after(t, s.NFA, a, x), after(t, s.NFA, b, x)); !slices.Equal(union, parts) {
				t.Errorf("After of the union of %x and %x by %d in %v is %x, the union of both is %x", a, b, x, s.NFA, union, parts)
			}
		}
	}
}

func TestRunsCanBeContinued(t *testing.T) {
	for _, s := range samples() {
		for _, w := range s.words {
			k := len(w) / 2
			second := s.NFA
			second.Start = bitset.List(run(t, s.NFA, w[:k]))
			if whole, parts := run(t, s.NFA, w), run(t, second, w[k:]); !slices.Equal(whole, parts) {
				t.Errorf("Run(%v, %d) = %x, but %x if it is continued after %d letters", s.NFA, w, whole, parts, k)
			}
		}
	}
}

func TestRunsConsistOfSteps(t *testing.T) {
	for _, s := range samples() {
		for _, w := range s.words {
			steps := bitset.Of(s.Start...)
			for _, x := range w {
				steps = after(t, s.NFA, steps, x)
			}
			if whole := run(t, s.NFA, w); !slices.Equal(whole, steps) {
				t.Errorf("Run(%v, %d) = %x, but %x letter by letter", s.NFA, w, whole, steps)
			}
		}
	}
}

// P6.6

func TestTrimmedAutomataAreTrim(t *testing.T) {
	for _, s := range samples() {
		n := must(t)(nfa.Trim(s.NFA))
		var all row
		for k := range n.States {
			all[k] = true
		}
		r, e := nfa.Reachable(n)
		checkSet(t, "Reachable", n, r, e, all)
		p, e := nfa.Productive(n)
		checkSet(t, "Productive", n, p, e, all)
		if again := must(t)(nfa.Trim(n)); !same(again, n) {
			t.Errorf("%v trimmed is %v, and trimmed again %v", s.NFA, n, again)
		}
	}
}
