package dfatest

import (
	"slices"

	"sentinel/api"
)

// Copied returns an automaton with memory of its own.
func Copied(d api.DFA) api.DFA {
	d.Next, d.Final = slices.Clone(d.Next), slices.Clone(d.Final)
	for s, row := range d.Next {
		d.Next[s] = slices.Clone(row)
	}
	return d
}

// Padded returns a copy of an automaton with invalid elements in the memory behind its slices.
func Padded(d api.DFA) api.DFA {
	d = Copied(d)
	for s, row := range d.Next {
		d.Next[s] = append(row, -1, 9999)[:len(row)]
	}
	d.Next = append(d.Next, nil, []int{-1})[:len(d.Next)]
	d.Final = append(d.Final, true, true)[:len(d.Final)]
	return d
}

// Whole returns a copy of an automaton with the memory behind its slices.
func Whole(d api.DFA) api.DFA {
	d.Next, d.Final = slices.Clone(d.Next[:cap(d.Next)]), slices.Clone(d.Final[:cap(d.Final)])
	for s, row := range d.Next {
		d.Next[s] = slices.Clone(row[:cap(row)])
	}
	return d
}

// Overwrite changes all the memory that a slice can reach.
func Overwrite[E any](s []E, value E) {
	s = s[:cap(s)]
	for i := range s {
		s[i] = value
	}
}

// Apart reports whether no two of the given lists share memory. It changes all of them.
func Apart(l [][]int) bool {
	for i, row := range l {
		Overwrite(row, -7-i)
	}
	for i, row := range l {
		if slices.ContainsFunc(row, func(k int) bool { return k != -7-i }) {
			return false
		}
	}
	return true
}
