package dfatest

import "sentinel/api"

// Shaped returns an automaton with the given successors and final states.
func Shaped(vars, states int, next func(s, x int) int, final func(s int) bool) api.DFA {
	d := api.DFA{Vars: vars}
	for s := range states {
		row := make([]int, 1<<vars)
		for x := range row {
			row[x] = next(s, x)
		}
		d.Next, d.Final = append(d.Next, row), append(d.Final, final(s))
	}
	return d
}

// Constant returns the automaton of all words, or of none.
func Constant(vars int, accepts bool) api.DFA {
	return Shaped(vars, 1, func(s, x int) int { return 0 }, func(s int) bool { return accepts })
}

// Line returns an automaton in which each state leads to the next one, and the last one, which is final, to itself.
func Line(vars, states int) api.DFA {
	return Shaped(vars, states,
		func(s, x int) int { return min(s+1, states-1) },
		func(s int) bool { return s == states-1 })
}

// Cycle returns an automaton whose states lead around a cycle, one in each so many of which is final.
func Cycle(vars, states, every int) api.DFA {
	return Shaped(vars, states,
		func(s, x int) int { return (s + 1) % states },
		func(s int) bool { return s%every == every-1 })
}

// Recent returns an automaton whose states are the last digits of variable v; a word is accepted if the first of these is 1.
func Recent(vars, v, digits int) api.DFA {
	return Shaped(vars, 1<<digits,
		func(s, x int) int { return (2*s + x>>v%2) % (1 << digits) },
		func(s int) bool { return s >= 1<<digits/2 })
}
