package compile

import (
	"slices"

	"sentinel/api"
)

// nowhere stands for a state that accepts no word, where an automaton has none or it has another number.
const nowhere = -1

// sets are sets of states of an automaton that has no two equivalent ones. A set accepts the words that one of its states
// accepts. It is written as a string whose runes are its states in ascending order.
type sets struct {
	api.DFA
	dead int // the state that accepts no word, or nowhere
	full int // the state that accepts all words, or nowhere
}

// setsOf returns the sets of states of an automaton.
func setsOf(d api.DFA) sets {
	return sets{d, lasting(d, false), lasting(d, true)}
}

// lasting returns the state that leads only to itself and is final or not, or nowhere if there is none.
func lasting(d api.DFA, final bool) int {
	for s, row := range d.Next {
		if d.Final[s] == final && !slices.ContainsFunc(row, func(to int) bool { return to != s }) {
			return s
		}
	}
	return nowhere
}

// text returns a set that accepts the words that one of the states accepts, without states that add nothing
// to those of the others. It uses the memory of the states.
func (s sets) text(states []rune) string {
	if s.full != nowhere && slices.Contains(states, rune(s.full)) {
		return string(rune(s.full))
	}
	slices.Sort(states)
	return string(slices.DeleteFunc(slices.Compact(states), func(k rune) bool { return int(k) == s.dead }))
}

// after returns the states to which a letter leads from those of a set.
func (s sets) after(text string, x uint8) []rune {
	var l []rune
	for _, k := range text {
		l = append(l, rune(s.Next[k][x]))
	}
	return l
}

// someFinal reports whether one of the states is final.
func (s sets) someFinal(states []rune) bool {
	return slices.ContainsFunc(states, func(k rune) bool { return s.Final[k] })
}

// isFinal reports whether a set accepts the empty word.
func (s sets) isFinal(text string) bool {
	return s.someFinal([]rune(text))
}

// isFull reports whether a set accepts all words because one of its states does.
func (s sets) isFull(text string) bool {
	return s.full != nowhere && text == string(rune(s.full))
}
