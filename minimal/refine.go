package minimal

import (
	"cmp"
	"iter"
	"slices"

	"sentinel/api"
	"sentinel/bitset"
)

// partition is a partition of the states of an automaton into classes with numbers.
type partition struct {
	next    [][]int // for each state its successors
	before  [][]int // for each state those that lead to it
	class   []int   // for each state the number of its class
	members [][]int // for each class its states
	moved   []int   // the states whose class has another number than before the last round
}

// stable returns the partition into classes of equivalent states: it does not
// change any more after as many rounds as there are states.
func stable(d api.DFA) []int {
	return refined(d, len(d.Next))
}

// refined returns the partition after some rounds of refinement, its classes in the order of their smallest states.
func refined(d api.DFA, rounds int) []int {
	p := byFinal(d)
	for k := 0; k < rounds && len(p.moved) > 0; k++ {
		p.round()
	}
	return inOrder(p.class)
}

// byFinal returns the partition into final and other states. If there are none of one
// kind, its class stays empty, and no state has moved.
func byFinal(d api.DFA) *partition {
	p := &partition{next: d.Next, before: predecessors(d.Next), class: make([]int, len(d.Next)), members: make([][]int, 1)}
	var final, other []int
	for s, is := range d.Final {
		if is {
			final = append(final, s)
		} else {
			other = append(other, s)
		}
	}
	p.split(0, [][]int{final, other})
	return p
}

// predecessors returns for each state those that lead to it.
func predecessors(next [][]int) [][]int {
	before := make([][]int, len(next))
	for s, row := range next {
		for _, to := range row {
			before[to] = append(before[to], s)
		}
	}
	return before
}

// round splits the classes by the classes of the successors. For each letter, the successors of the states of a
// class were together before the last round, so only states that lead to a moved one can part from the others.
func (p *partition) round() {
	var l []int
	for _, s := range p.moved {
		l = append(l, p.before[s]...)
	}
	affected := bitset.Of(l...)
	touched := bitset.List(bitset.Of(each(p.class, bitset.List(affected))...))
	parts := make([][][]int, len(touched))
	for i, c := range touched {
		parts[i] = p.parts(c, affected)
	}
	p.moved = nil
	for i, c := range touched {
		p.split(c, parts[i])
	}
}

// parts returns the states of a class, those with equal rows together.
func (p *partition) parts(c int, affected api.Set) [][]int {
	var parts [][]int
	numbers := map[string]int{}
	number := func(row []int) int {
		name := text(row)
		k, known := numbers[name]
		if !known {
			k = len(parts)
			numbers[name] = k
			parts = append(parts, nil)
		}
		return k
	}
	for s, row := range p.rows(c, affected) {
		k := number(row)
		parts[k] = append(parts[k], s)
	}
	return parts
}

// rows yields the states of a class and the classes of their successors. The rows of the states that
// are not affected are left empty, since they are equal to each other, but not to one of an affected state.
func (p *partition) rows(c int, affected api.Set) iter.Seq2[int, []int] {
	return func(yield func(int, []int) bool) {
		for _, s := range p.members[c] {
			var row []int
			if bitset.Has(affected, s) {
				row = each(p.class, p.next[s])
			}
			if !yield(s, row) {
				return
			}
		}
	}
}

// split replaces a class by its parts. The largest one keeps the number, so that
// a state moves only to a class of at most half the size.
func (p *partition) split(c int, parts [][]int) {
	slices.SortStableFunc(parts, func(a, b []int) int { return cmp.Compare(len(b), len(a)) })
	p.members[c] = parts[0]
	for _, part := range parts[1:] {
		for _, s := range part {
			p.class[s] = len(p.members)
		}
		p.members = append(p.members, part)
		p.moved = append(p.moved, part...)
	}
}

// text returns the text of a row. Rows of the same length have the same text only if
// they are equal, since there are fewer than 2^16 classes.
func text(row []int) string {
	b := make([]byte, 0, 2*len(row))
	for _, c := range row {
		b = append(b, byte(c), byte(c>>8))
	}
	return string(b)
}

// each returns the classes of the given states.
func each(class, states []int) []int {
	l := make([]int, len(states))
	for i, s := range states {
		l[i] = class[s]
	}
	return l
}

// inOrder returns a partition with its classes numbered in the order of their smallest states.
func inOrder(class []int) []int {
	numbers := map[int]int{}
	l := make([]int, len(class))
	for s, c := range class {
		k, known := numbers[c]
		if !known {
			k = len(numbers)
			numbers[c] = k
		}
		l[s] = k
	}
	return l
}
