package dfatest

import (
	"math"
	"slices"

	"sentinel/api"
)

// compareWords compares words by length first.
func compareWords(v, w []uint8) int {
	if len(v) != len(w) {
		return len(v) - len(w)
	}
	return slices.Compare(v, w)
}

// ByFirstVisit returns what words lead to in the order of the smallest words that do, or nil if that is more than most things.
func ByFirstVisit[K comparable](start K, letters, most int, next func(k K, x uint8) K) []K {
	words := map[K][]uint8{start: nil}
	reached := []K{start}
	for changed := true; changed; {
		changed = false
		for _, k := range reached {
			for x := range letters {
				w := append(slices.Clone(words[k]), uint8(x))
				to := next(k, uint8(x))
				old, known := words[to]
				if !known {
					reached = append(reached, to)
				}
				if !known || compareWords(w, old) < 0 {
					words[to], changed = w, true
				}
			}
		}
		if len(reached) > most {
			return nil
		}
	}
	slices.SortFunc(reached, func(a, b K) int { return compareWords(words[a], words[b]) })
	return reached
}

// Numbered returns the automaton of the given things, the first of which is the start.
func Numbered[K comparable](vars int, l []K, next func(k K, x uint8) K, final func(k K) bool) api.DFA {
	d := api.DFA{Vars: vars}
	for _, k := range l {
		var row []int
		for x := range 1 << vars {
			row = append(row, slices.Index(l, next(k, uint8(x))))
		}
		d.Next, d.Final = append(d.Next, row), append(d.Final, final(k))
	}
	return d
}

// Renumbered returns the automaton of the reachable states.
func Renumbered(d api.DFA) api.DFA {
	next := func(s int, x uint8) int { return d.Next[s][x] }
	l := ByFirstVisit(d.Start, 1<<d.Vars, math.MaxInt, next)
	return Numbered(d.Vars, l, next, func(s int) bool { return d.Final[s] })
}

// EndOf returns the state to which a word leads from s.
func EndOf(d api.DFA, s int, w []uint8) int {
	for _, x := range w {
		s = d.Next[s][x]
	}
	return s
}

// ErrorOf returns what is invalid about an automaton: of all that is, what comes first in the order of chapter 7.
func ErrorOf(d api.DFA) api.Errno {
	first, fault := math.MaxInt, api.OK
	found := func(is bool, rank int, e api.Errno) {
		if is && rank < first {
			first, fault = rank, e
		}
	}
	isNoState := func(s int) bool { return s < 0 || s >= len(d.Next) }
	letters := math.Pow(2, float64(d.Vars))
	for i := len(d.Next) - 1; i >= 0; i-- {
		found(slices.ContainsFunc(d.Next[i], isNoState), 2*i+11, api.ErrState)
		found(float64(len(d.Next[i])) != letters, 2*i+10, api.ErrForm)
	}
	found(isNoState(d.Start), 5, api.ErrState)
	found(len(d.Final) != len(d.Next), 4, api.ErrForm)
	found(len(d.Next) > 4096, 3, api.ErrLong)
	found(len(d.Next) < 1, 2, api.ErrShort)
	found(d.Vars < 0 || d.Vars > 6, 1, api.ErrVars)
	return fault
}

// Same reports whether two automata are equal.
func Same(a, b api.DFA) bool {
	return a.Vars == b.Vars && a.Start == b.Start && SameRows(a.Next, b.Next) && slices.Equal(a.Final, b.Final)
}

// SameRows reports whether two lists of rows are equal.
func SameRows(a, b [][]int) bool {
	return slices.EqualFunc(a, b, slices.Equal)
}
