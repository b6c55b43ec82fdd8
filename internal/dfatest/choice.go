// Package dfatest contains what the tests of several packages share: deterministic finite automata and words to
// test with, and models of what the functions on them do. It is written without the packages of the layers.
package dfatest

import (
	"math"
	"slices"

	"sentinel/api"
)

// Choice is a source of numbers that is the same in each run.
type Choice uint64

// Below returns a number from 0 to n - 1.
func (c *Choice) Below(n int) int {
	*c = *c*6364136223846793005 + 1442695040888963407
	return int(uint64(*c) >> 33 % uint64(n))
}

// Word returns a word of n letters over vars variables.
func (c *Choice) Word(n, vars int) []uint8 {
	w := make([]uint8, n)
	for i := range w {
		w[i] = uint8(c.Below(1 << vars))
	}
	return w
}

// Words returns all short words over few variables, or some words over more of them.
func (c *Choice) Words(vars int) [][]uint8 {
	if vars < 3 {
		return WordsUpTo(7-2*vars, vars)
	}
	return [][]uint8{nil, c.Word(1, vars), c.Word(2, vars), c.Word(c.Below(12), vars), c.Word(64, vars)}
}

// WordsUpTo returns all words of at most n letters over vars variables in their order.
func WordsUpTo(n, vars int) [][]uint8 {
	l := [][]uint8{nil}
	for i := 0; len(l[i]) < n; i++ {
		for x := range 1 << vars {
			l = append(l, append(slices.Clone(l[i]), uint8(x)))
		}
	}
	return l
}

// Automaton returns a valid automaton; many of its states are unreachable if the letters lead to few.
func (c *Choice) Automaton(vars, states int) api.DFA {
	d := api.DFA{Vars: vars, Start: c.Below(states)}
	targets := []int{c.Below(states)}
	for range c.Below(2 * states) {
		targets = append(targets, c.Below(states))
	}
	for range states {
		var row []int
		for range 1 << vars {
			row = append(row, targets[c.Below(len(targets))])
		}
		d.Next, d.Final = append(d.Next, row), append(d.Final, c.Below(3) == 0)
	}
	return d
}

// Imitated returns an automaton with several states for each state of d, and for each of its states
// the one of d that it behaves as. It starts in any of them.
func (c *Choice) Imitated(d api.DFA, more int) (r api.DFA, states []int) {
	for s := range d.Next {
		states = append(states, s)
	}
	for range more {
		states = slices.Insert(states, c.Below(len(states)+1), c.Below(len(d.Next)))
	}
	r = api.DFA{Vars: d.Vars, Start: c.Below(len(states))}
	for _, s := range states {
		var row []int
		for _, to := range d.Next[s] {
			at := c.Below(len(states))
			for states[at] != to {
				at = (at + 1) % len(states)
			}
			row = append(row, at)
		}
		r.Next, r.Final = append(r.Next, row), append(r.Final, d.Final[s])
	}
	return r, states
}

// Enlarged returns an automaton that accepts the same words as d, with more states.
func (c *Choice) Enlarged(d api.DFA, more int) api.DFA {
	r, states := c.Imitated(d, more)
	r.Start = slices.Index(states, d.Start)
	return r
}

// Changed returns an automaton that is almost d.
func (c *Choice) Changed(d api.DFA) api.DFA {
	d = Copied(d)
	s := c.Below(len(d.Next))
	if c.Below(2) == 0 {
		d.Final[s] = !d.Final[s]
	} else {
		d.Next[s][c.Below(1<<d.Vars)] = c.Below(len(d.Next))
	}
	return d
}

// Wild returns an automaton that has few chances of being valid.
func (c *Choice) Wild() api.DFA {
	d := api.DFA{Vars: c.Below(3)}
	if c.Below(8) == 0 {
		numbers := []int{math.MinInt, -1, 0, 7, 64, math.MaxInt}
		d.Vars = numbers[c.Below(len(numbers))]
	}
	states := c.Below(5)
	for range states {
		d.Next, d.Final = append(d.Next, c.wildRow(d.Vars, states)), append(d.Final, c.Below(2) == 0)
	}
	d.Start = c.Below(states+1) - c.Below(2)*c.Below(2)*c.Below(2)
	if c.Below(8) == 0 {
		d.Final = make([]bool, c.Below(5))
	}
	return d
}

// wildRow returns a row that may be too short or too long, or contain something that is not a state.
func (c *Choice) wildRow(vars, states int) []int {
	row := make([]int, 1<<max(0, min(vars, 3)))
	for x := range row {
		row[x] = c.Below(states)
		if c.Below(30) == 0 {
			row[x] = c.Below(8) - 2
		}
	}
	if c.Below(12) == 0 {
		row = slices.Repeat(row, 2*c.Below(2))
	}
	return row
}

// Some returns one of each so many things.
func Some[T any](l []T, every int) []T {
	var r []T
	for i := 0; i < len(l); i += every {
		r = append(r, l[i])
	}
	return r
}
