package minimal

import (
	"slices"

	"sentinel/api"
)

// pair is a pair of states.
type pair struct{ s, t int }

// visit is a pair of states to which a word leads from a first pair.
type visit struct {
	pair
	letter uint8 // the last one of the word
	from   int   // the place in the queue of the pair before that letter, or -1 for the first pair
}

// groups contains for each state another one of its group, or itself for one state of each group.
type groups []int

// singles returns the groups of one state each.
func singles(states int) groups {
	g := make(groups, states)
	for s := range g {
		g[s] = s
	}
	return g
}

// root returns the state that stands for the group of s.
func (g groups) root(s int) int {
	for g[s] != s {
		g[s] = g[g[s]]
		s = g[s]
	}
	return s
}

// join makes one group of those of two states, and reports whether they were different.
func (g groups) join(p pair) bool {
	a, b := g.root(p.s), g.root(p.t)
	g[a] = b
	return a != b
}

// search returns the smallest word that distinguishes two states. A pair within a group is not visited: if a
// word distinguishes it, the word distinguishes a pair that has joined the group, which a smaller word leads to.
func search(d api.DFA, first pair) ([]uint8, bool) {
	joined := singles(len(d.Next))
	joined.join(first)
	queue := []visit{{pair: first, from: -1}}
	for i := 0; i < len(queue); i++ {
		v := queue[i]
		if d.Final[v.s] != d.Final[v.t] {
			return wordTo(queue, i), true
		}
		for x, s := range d.Next[v.s] {
			p := pair{s, d.Next[v.t][x]}
			if joined.join(p) {
				queue = append(queue, visit{p, uint8(x), i})
			}
		}
	}
	return nil, false
}

// wordTo returns the word that leads to place i of the queue.
func wordTo(queue []visit, i int) []uint8 {
	var w []uint8
	for v := queue[i]; v.from >= 0; v = queue[v.from] {
		w = append(w, v.letter)
	}
	slices.Reverse(w)
	return w
}
