package boolean_test

import (
	"slices"
	"testing"

	"sentinel/api"
	"sentinel/boolean"
	"sentinel/internal/dfatest"
	"sentinel/subset"
)

// not returns what Not returns without an error.
func not(t *testing.T, d api.DFA) api.DFA {
	t.Helper()
	m, e := boolean.Not(d)
	if e != api.OK {
		t.Fatalf("Not(%v) returned the error %d", d, e)
	}
	return m
}

// algebra is a set of functions that return what those of the package return without an error.
type algebra struct{ and, or, xor, minus func(a, b api.DFA) api.DFA }

// algebraOf returns the functions for a test, which an error ends.
func algebraOf(t *testing.T) algebra {
	l := make([]func(a, b api.DFA) api.DFA, 4)
	for i, o := range operations() {
		l[i] = func(a, b api.DFA) api.DFA {
			t.Helper()
			m, e := o.combine(a, b)
			if e != api.OK {
				t.Fatalf("%s(%v, %v) returned the error %d", o.name, a, b, e)
			}
			return m
		}
	}
	return algebra{l[0], l[1], l[2], l[3]}
}

// same checks a law.
func same(t *testing.T, law string, left, right api.DFA) {
	t.Helper()
	if !dfatest.Same(left, right) {
		t.Errorf("%s: the sides are %v and %v", law, left, right)
	}
}

// triples calls check for automata over the same variables.
func triples(check func(a, b, c api.DFA)) {
	draw := dfatest.Choice(93)
	for range 300 {
		vars := draw.Below(3)
		check(draw.Automaton(vars, 1+draw.Below(6)), draw.Automaton(vars, 1+draw.Below(6)), draw.Automaton(vars, 1+draw.Below(6)))
	}
	for range 20 {
		vars := draw.Below(7)
		check(draw.Automaton(vars, 1+draw.Below(6)), draw.Automaton(vars, 1+draw.Below(6)), draw.Automaton(vars, 1+draw.Below(6)))
	}
}

// P9.4

func TestOperationsCommuteAndAssociate(t *testing.T) {
	f := algebraOf(t)
	triples(func(a, b, c api.DFA) {
		for _, op := range []func(a, b api.DFA) api.DFA{f.and, f.or, f.xor} {
			same(t, "commutativity", op(a, b), op(b, a))
			same(t, "associativity", op(op(a, b), c), op(a, op(b, c)))
		}
	})
}

func TestOperationsDistributeAndAbsorb(t *testing.T) {
	f := algebraOf(t)
	triples(func(a, b, c api.DFA) {
		same(t, "a & (b | c)", f.and(a, f.or(b, c)), f.or(f.and(a, b), f.and(a, c)))
		same(t, "a | (b & c)", f.or(a, f.and(b, c)), f.and(f.or(a, b), f.or(a, c)))
		same(t, "a & (b + c)", f.and(a, f.xor(b, c)), f.xor(f.and(a, b), f.and(a, c)))
		m := not(t, not(t, a))
		same(t, "a & (a | b)", f.and(a, f.or(a, b)), m)
		same(t, "a | (a & b)", f.or(a, f.and(a, b)), m)
		same(t, "a & a", f.and(a, a), m)
		same(t, "a | a", f.or(a, a), m)
	})
}

func TestComplements(t *testing.T) {
	f := algebraOf(t)
	triples(func(a, b, _ api.DFA) {
		same(t, "De Morgan's first law", not(t, f.and(a, b)), f.or(not(t, a), not(t, b)))
		same(t, "De Morgan's second law", not(t, f.or(a, b)), f.and(not(t, a), not(t, b)))
		m := dfatest.Minimized(a)
		same(t, "involution", not(t, not(t, m)), m)
		same(t, "a & !a", f.and(a, not(t, a)), dfatest.Constant(a.Vars, false))
		same(t, "a | !a", f.or(a, not(t, a)), dfatest.Constant(a.Vars, true))
		same(t, "a + !a", f.xor(a, not(t, a)), dfatest.Constant(a.Vars, true))
		same(t, "a - a", f.minus(a, a), dfatest.Constant(a.Vars, false))
		same(t, "a - b", f.minus(a, b), f.and(a, not(t, b)))
		same(t, "a + b", f.xor(a, b), f.or(f.minus(a, b), f.minus(b, a)))
		same(t, "a + b", f.xor(a, b), f.minus(f.or(a, b), f.and(a, b)))
	})
}

func TestConstants(t *testing.T) {
	f := algebraOf(t)
	triples(func(a, _, _ api.DFA) {
		m, all, nothing := dfatest.Minimized(a), dfatest.Constant(a.Vars, true), dfatest.Constant(a.Vars, false)
		same(t, "a & all", f.and(a, all), m)
		same(t, "a & nothing", f.and(a, nothing), nothing)
		same(t, "a | all", f.or(a, all), all)
		same(t, "a | nothing", f.or(a, nothing), m)
		same(t, "a + all", f.xor(a, all), not(t, a))
		same(t, "a + nothing", f.xor(a, nothing), m)
		same(t, "a - nothing", f.minus(a, nothing), m)
		same(t, "all - a", f.minus(all, a), not(t, a))
	})
}

func TestAllIsTheIntersection(t *testing.T) {
	f := algebraOf(t)
	triples(func(a, b, c api.DFA) {
		for _, l := range [][]api.DFA{{a, b, c}, {c, b, a}, {b, c, a, b}} {
			m, e := boolean.All(a.Vars, l...)
			if e != api.OK {
				t.Errorf("All(%v) returned the error %d", l, e)
			}
			same(t, "All", m, f.and(a, f.and(b, c)))
		}
	})
}

// P9.5

func TestInclusionAndOperations(t *testing.T) {
	f := algebraOf(t)
	for _, s := range samples() {
		_, is, e := boolean.Included(s.a, s.b)
		if e != api.OK {
			t.Errorf("Included(%v, %v) returned the error %d", s.a, s.b, e)
		}
		if both := dfatest.Same(f.and(s.a, s.b), dfatest.Minimized(s.a)); both != is {
			t.Errorf("Included(%v, %v) = %t, but the intersection is the first one: %t", s.a, s.b, is, both)
		}
		if nothing := !slices.Contains(f.minus(s.a, s.b).Final, true); nothing != is {
			t.Errorf("Included(%v, %v) = %t, but the difference accepts no word: %t", s.a, s.b, is, nothing)
		}
	}
}

// P9.2: inclusion in both directions is equality, and no word before the one that is returned is missing.
func TestInclusionAndEquality(t *testing.T) {
	for _, s := range samples() {
		w, there, e := boolean.Included(s.a, s.b)
		_, back, f := boolean.Included(s.b, s.a)
		is, g := boolean.Equal(s.a, s.b)
		if e != api.OK || f != api.OK || g != api.OK || is != (there && back) {
			t.Errorf("%v and %v are equal: %t, but included: %t and %t, with the errors %d, %d, %d", s.a, s.b, is, there, back, g, e, f)
		}
		if len(s.words) < 10 {
			continue
		}
		first := slices.IndexFunc(s.words, func(w []uint8) bool {
			inA, _ := subset.Accepts(s.a, w)
			inB, _ := subset.Accepts(s.b, w)
			return inA && !inB
		})
		longest := len(s.words[len(s.words)-1])
		if first >= 0 && !slices.Equal(w, s.words[first]) || first < 0 && !there && len(w) <= longest {
			t.Errorf("Included(%v, %v) = %d, %t, but the first word has the place %d", s.a, s.b, w, there, first)
		}
	}
}
