package dfatest

import (
	"math"
	"slices"

	"sentinel/api"
)

// The models of this file do without partitions: everything follows from the smallest words that
// distinguish pairs of states, which are found in the order of their lengths.

// Distinction is the smallest word that distinguishes two states, if there is one.
type Distinction struct {
	Word []uint8
	Is   bool
}

// Distinctions returns the distinctions of all pairs of states.
func Distinctions(d api.DFA) [][]Distinction {
	table := make([][]Distinction, len(d.Next))
	for s := range table {
		table[s] = make([]Distinction, len(d.Next))
		for u := range table {
			table[s][u].Is = d.Final[s] != d.Final[u]
		}
	}
	for length := 1; lengthen(d, table, length); length++ {
	}
	return table
}

// lengthen finds the distinctions with words of the given length, and reports whether there are any.
func lengthen(d api.DFA, table [][]Distinction, length int) bool {
	some := false
	for s, row := range table {
		for u, old := range row {
			for x := range 1 << d.Vars {
				rest := table[d.Next[s][x]][d.Next[u][x]]
				if !old.Is && rest.Is && len(rest.Word) == length-1 {
					row[u] = Distinction{append([]uint8{uint8(x)}, rest.Word...), true}
					some = true
					break
				}
			}
		}
	}
	return some
}

// Together returns the classes of the states that no word of at most k letters distinguishes.
func Together(table [][]Distinction, k int) []int {
	l := make([]int, len(table))
	classes := 0
	for s, row := range table {
		first := slices.IndexFunc(row, func(x Distinction) bool { return !x.Is || len(x.Word) > max(k, 0) })
		if first < s {
			l[s] = l[first]
		} else {
			l[s] = classes
			classes++
		}
	}
	return l
}

// Equivalent returns the classes of equivalent states.
func Equivalent(d api.DFA) []int {
	return Together(Distinctions(d), math.MaxInt)
}

// Minimized returns the minimal automaton.
func Minimized(d api.DFA) api.DFA {
	class := Equivalent(d)
	next := func(c int, x uint8) int { return class[d.Next[slices.Index(class, c)][x]] }
	l := ByFirstVisit(class[d.Start], 1<<d.Vars, math.MaxInt, next)
	return Numbered(d.Vars, l, next, func(c int) bool { return d.Final[slices.Index(class, c)] })
}
