package project

import (
	"iter"
	"math/bits"
	"slices"

	"sentinel/api"
	"sentinel/minimal"
)

// visits contains sets of states in the order of their first visits, which numbers them. A set is
// written as bytes in which bit k belongs to state k.
type visits struct {
	sets    []string
	numbers map[string]int
}

// number returns the number of the visited set.
func (l *visits) number(set []byte) int {
	k, known := l.numbers[string(set)]
	if !known {
		text := string(set)
		k = len(l.sets)
		l.numbers[text] = k
		l.sets = append(l.sets, text)
	}
	return k
}

// setOver returns an empty set for the states of an automaton.
func setOver(d api.DFA) []byte {
	return make([]byte, len(d.Next)/8+1)
}

// join adds a state to a set.
func join(set []byte, s int) {
	set[s>>3] |= 1 << (s & 7)
}

// members returns the states of a set in ascending order.
func members(set string) []int {
	var l []int
	for i := range len(set) {
		for rest := set[i]; rest != 0; rest &= rest - 1 {
			l = append(l, 8*i+bits.TrailingZeros8(rest))
		}
	}
	return l
}

// after returns the set of the states to which the letters lead from the given states.
func after(d api.DFA, states []int, letters iter.Seq[int]) []byte {
	set := setOver(d)
	for x := range letters {
		for _, s := range states {
			join(set, d.Next[s][x])
		}
	}
	return set
}

// someVariant returns the minimal automaton of the words some v-variant of which d accepts. Until its
// end it leaves out bit v of the letters, on which nothing depends.
func someVariant(d api.DFA, v, budget int) (api.DFA, api.Errno) {
	r := api.DFA{Vars: d.Vars - 1}
	l := visits{numbers: map[string]int{}}
	start := setOver(d)
	join(start, d.Start)
	l.number(start)
	for len(r.Next) < len(l.sets) && len(l.sets) <= budget {
		states, row := members(l.sets[len(r.Next)]), make([]int, 1<<r.Vars)
		for x := range row {
			row[x] = l.number(after(d, states, variants(x, v)))
		}
		final := slices.ContainsFunc(states, func(s int) bool { return d.Final[s] })
		r.Next, r.Final = append(r.Next, row), append(r.Final, final)
	}
	if len(l.sets) > budget {
		return api.DFA{}, api.ErrBudget
	}
	m, fault := minimal.Minimize(r)
	if fault != api.OK {
		return api.DFA{}, fault
	}
	return withBit(m, v), api.OK
}
