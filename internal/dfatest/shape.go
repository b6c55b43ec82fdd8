package dfatest

import "sentinel/api"

// Shaped returns an automaton with the given successors and final states.
func Shaped(vars, states int, next func(s, x int) int, final func(s int) bool) api.DFA {
	d := api.DFA{Vars: vars}
	for s := range states {
		row := make([]int, 1<<vars)
		for x := range row {
			row[x] = next(s, x)
		}
		d.Next, d.Final = append(d.Next, row), append(d.Final, final(s))
	}
	return d
}

// Line returns an automaton in which each state leads to the next one, and the last one, which is final, to itself.
func Line(vars, states int) api.DFA {
	return Shaped(vars, states,
		func(s, x int) int { return min(s+1, states-1) },
		func(s int) bool { return s == states-1 })
}

// Cycle returns an automaton whose states lead around a cycle, one in each so many of which is final.
func Cycle(vars, states, every int) api.DFA {
	return Shaped(vars, states,
		func(s, x int) int { return (s + 1) % states },
		func(s int) bool { return s%every == every-1 })
}
