package nfa

import (
	"iter"
	"slices"

	"sentinel/api"
	"sentinel/bitset"
	"sentinel/cube"
)

// matching yields the edges that match the letter x, in their order.
func matching(n api.NFA, x uint8) iter.Seq[api.Edge] {
	return func(yield func(api.Edge) bool) {
		for _, e := range n.Edges {
			if cube.Has(letters(e), x) && !yield(e) {
				return
			}
		}
	}
}

// successors returns the states to which edges that match the letter x lead from states of s.
func successors(n api.NFA, s api.Set, x uint8) api.Set {
	var l []int
	for e := range matching(n, x) {
		if bitset.Has(s, e.From) {
			l = append(l, e.To)
		}
	}
	return bitset.Of(l...)
}

// ends returns the states to which a word leads from the start states.
func ends(n api.NFA, w []uint8) api.Set {
	s := bitset.Of(n.Start...)
	for _, x := range w {
		s = successors(n, s, x)
	}
	return s
}

// reachable returns the reachable states. Every edge leads further, since every valid cube contains a letter.
func reachable(n api.NFA) api.Set {
	s := bitset.Of(n.Start...)
	grows := func() bool {
		grown := false
		for _, e := range n.Edges {
			if bitset.Has(s, e.From) && !bitset.Has(s, e.To) {
				s, grown = bitset.With(s, e.To), true
			}
		}
		return grown
	}
	for grows() {
	}
	return s
}

// productive returns the productive states.
func productive(n api.NFA) api.Set {
	return reachable(reversed(n))
}

// reversed returns the automaton in which every path leads the other way.
func reversed(n api.NFA) api.NFA {
	r := api.NFA{
		Vars:   n.Vars,
		States: n.States,
		Start:  slices.Clone(n.Final),
		Final:  slices.Clone(n.Start),
		Edges:  slices.Clone(n.Edges),
	}
	for i, e := range n.Edges {
		r.Edges[i].From, r.Edges[i].To = e.To, e.From
	}
	return r
}

// renumbered returns the automaton with the numbers that its states get; those that get none are left out.
func renumbered(n api.NFA, states int, number func(s int) (int, bool)) api.NFA {
	list := func(l []int) []int {
		var numbers []int
		for _, s := range l {
			if k, is := number(s); is {
				numbers = append(numbers, k)
			}
		}
		return numbers
	}
	r := api.NFA{Vars: n.Vars, States: states, Start: list(n.Start), Final: list(n.Final)}
	for _, e := range n.Edges {
		from, isFrom := number(e.From)
		to, isTo := number(e.To)
		if isFrom && isTo {
			r.Edges = append(r.Edges, api.Edge{From: from, To: to, Pos: e.Pos, Neg: e.Neg})
		}
	}
	return r
}
