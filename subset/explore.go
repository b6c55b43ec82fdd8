package subset

import (
	"strconv"

	"sentinel/api"
	"sentinel/bitset"
	"sentinel/cube"
)

// table contains for each state and letter the successor.
type table [][]int

// row returns the successors of a state.
func (t table) row(s int) []int {
	return t[s]
}

// step returns the successor of a state for the letter x.
func (t table) step(s int, x uint8) int {
	return t[s][x]
}

// end returns the state to which a word leads from the start state.
func end(d api.DFA, w []uint8) int {
	return follow(table(d.Next).step, d.Start, w)
}

// follow returns the state to which the steps for the letters of a word lead from s.
func follow(step func(s int, x uint8) int, s int, w []uint8) int {
	for _, x := range w {
		s = step(s, x)
	}
	return s
}

// moves contains for each letter and state the states to which edges lead.
type moves [][][]int

// movesOf returns the moves of an automaton. They are collected once, since
// nfa.After would check all edges again for every set and letter.
func movesOf(n api.NFA) moves {
	m := make(moves, lettersOver(n.Vars))
	for x := range m {
		m[x] = make([][]int, n.States)
	}
	for _, e := range n.Edges {
		letters, _ := cube.Letters(api.Cube{Pos: e.Pos, Neg: e.Neg}, n.Vars)
		for _, x := range letters {
			m[x][e.From] = append(m[x][e.From], e.To)
		}
	}
	return m
}

// successors returns for each letter the set to which it leads from s.
func (m moves) successors(s api.Set) []api.Set {
	from, l := bitset.List(s), make([]api.Set, len(m))
	for x, to := range m {
		var union []int
		for _, k := range from {
			union = append(union, to[k]...)
		}
		l[x] = bitset.Of(union...)
	}
	return l
}

// setText returns the text of a set: its words. Sets in canonical form have the same text only if they are equal.
func setText(s api.Set) string {
	var b []byte
	for _, w := range s {
		b = strconv.AppendUint(b, w, 10)
		b = append(b, ' ')
	}
	return string(b)
}

// explore returns the states that are reached from start, numbered by first visit, and for each of them the
// numbers of its successors. States with the same text are the same. If there are more of them than the
// budget allows, it returns nothing and false.
func explore[S any](start S, successors func(S) []S, text func(S) string, budget int) (found []S, rows [][]int, within bool) {
	numbers := map[string]int{}
	number := func(s S) int {
		name := text(s)
		k, known := numbers[name]
		if !known {
			k = len(found)
			numbers[name] = k
			found = append(found, s)
		}
		return k
	}
	number(start)
queue:
	for len(rows) < len(found) {
		next := successors(found[len(rows)])
		row := make([]int, len(next))
		for x, s := range next {
			row[x] = number(s)
			if len(found) > budget {
				break queue
			}
		}
		rows = append(rows, row)
	}
	if len(found) > budget {
		return nil, nil, false
	}
	return found, rows, true
}
