package project

import (
	"iter"

	"sentinel/api"
)

// dropped returns letter x without bit v.
func dropped(x, v int) int {
	below := 1<<v - 1
	return x>>1&^below | x&below
}

// inserted returns letter x with a bit inserted at v.
func inserted(x, v, bit int) int {
	below := 1<<v - 1
	return x&^below<<1 | bit<<v | x&below
}

// variants yields the letters that are x without bit v.
func variants(x, v int) iter.Seq[int] {
	return func(yield func(int) bool) {
		for bit := range 2 {
			if !yield(inserted(x, v, bit)) {
				return
			}
		}
	}
}

// ignored reports whether no letter of a minimal automaton leads elsewhere if its bit v changes. Since
// no two states of it are equivalent, and all are reachable, that is so exactly if its language ignores v.
func ignored(m api.DFA, v int) bool {
	for _, row := range m.Next {
		for x := range 1 << (m.Vars - 1) {
			for y := range variants(x, v) {
				if row[y] != row[inserted(x, v, 0)] {
					return false
				}
			}
		}
	}
	return true
}

// mapped returns an automaton over vars variables in which letter x leads where letter old(x) leads in d.
func mapped(d api.DFA, vars int, old func(x int) int) api.DFA {
	r := api.DFA{Vars: vars, Start: d.Start}
	for s, before := range d.Next {
		row := make([]int, 1<<vars)
		for x := range row {
			row[x] = before[old(x)]
		}
		r.Next, r.Final = append(r.Next, row), append(r.Final, d.Final[s])
	}
	return r
}

// withoutBit returns a minimal automaton, which must ignore v, for letters without bit v. It stays minimal, and
// its states stay numbered by first visit, because a first visit never depends on a letter with bit v.
func withoutBit(m api.DFA, v int) api.DFA {
	return mapped(m, m.Vars-1, func(x int) int { return inserted(x, v, 0) })
}

// withBit returns a minimal automaton for letters with one more bit v. Like withoutBit, it keeps what Minimize has done.
func withBit(m api.DFA, v int) api.DFA {
	return mapped(m, m.Vars+1, func(x int) int { return dropped(x, v) })
}

// renamed returns an automaton for the letters to which a renaming maps those of d.
func renamed(d api.DFA, perm []int) api.DFA {
	return mapped(d, d.Vars, func(x int) int {
		old := 0
		for k, v := range perm {
			old |= x >> v & 1 << k
		}
		return old
	})
}
