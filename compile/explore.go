package compile

import (
	"sentinel/api"
	"sentinel/minimal"
)

// limits says over how many variables automata are, and how many states they may have.
type limits struct{ vars, budget int }

// region is a set of states that no letter leads out of.
type region[S comparable] struct {
	states  []S       // in the order of their first visits
	numbers map[S]int // their places in that order
	next    [][]int   // for each of them the numbers of its successors
}

// number returns the number of a state, which joins the region if it has none.
func (r *region[S]) number(s S) int {
	k, known := r.numbers[s]
	if !known {
		k = len(r.states)
		r.numbers[s] = k
		r.states = append(r.states, s)
	}
	return k
}

// explore returns the states that are reached from the given ones, or ErrBudget if the budget allows less of them.
func explore[S comparable](m limits, starts []S, step func(s S, x uint8) S) (region[S], api.Errno) {
	r := region[S]{numbers: map[S]int{}}
	for _, s := range starts {
		r.number(s)
	}
	for len(r.next) < len(r.states) && len(r.states) <= m.budget {
		s, row := r.states[len(r.next)], make([]int, 1<<m.vars)
		for x := range row {
			row[x] = r.number(step(s, uint8(x)))
		}
		r.next = append(r.next, row)
	}
	if len(r.states) > m.budget {
		return region[S]{}, api.ErrBudget
	}
	return r, api.OK
}

// language contains a set of words for each of some histories: those that lead from its start to a final state.
// No two states of the automaton are equivalent. State 0 is the start for the first history, and
// if there is only one history, the automaton is minimal, with states numbered by first visit.
type language struct {
	api.DFA
	starts map[history]int
}

// constant returns the language that has the words of a minimal automaton for each of the histories.
func constant(d api.DFA, histories []history) language {
	l := language{DFA: d, starts: map[history]int{}}
	for _, h := range histories {
		l.starts[h] = d.Start
	}
	return l
}

// languageOf returns the language of the words that lead from the start for a history to a final state.
func languageOf[S comparable](m limits, histories []history, start func(h history) S, step func(s S, x uint8) S, final func(s S) bool) (language, api.Errno) {
	var starts []S
	for _, h := range histories {
		starts = append(starts, start(h))
	}
	r, fault := explore(m, starts, step)
	if fault != api.OK {
		return language{}, fault
	}
	d := api.DFA{Vars: m.vars, Next: r.next}
	for _, s := range r.states {
		d.Final = append(d.Final, final(s))
	}
	small, class := merged(d)
	l := language{DFA: small, starts: map[history]int{}}
	for i, h := range histories {
		l.starts[h] = class[r.numbers[starts[i]]]
	}
	return l, api.OK
}

// automatonOf returns the minimal automaton of the words that lead from the start to a final state.
func automatonOf[S comparable](m limits, start S, step func(s S, x uint8) S, final func(s S) bool) (api.DFA, api.Errno) {
	l, fault := languageOf(m, noHistory(), func(history) S { return start }, step, final)
	return l.DFA, fault
}

// merged returns the automaton with one state for each class of equivalent states, and the class of each state.
func merged(d api.DFA) (api.DFA, []int) {
	// Without states there is an error, and there are no classes either.
	class, _ := minimal.Classes(d)
	m := api.DFA{Vars: d.Vars}
	for s, c := range class {
		if c < len(m.Next) {
			continue
		}
		row := make([]int, len(d.Next[s]))
		for x, to := range d.Next[s] {
			row[x] = class[to]
		}
		m.Next, m.Final = append(m.Next, row), append(m.Final, d.Final[s])
	}
	return m, class
}
