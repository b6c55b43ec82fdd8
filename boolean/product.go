package boolean

import (
	"iter"
	"slices"

	"sentinel/api"
	"sentinel/minimal"
)

// pair is a pair of states of two automata.
type pair struct{ a, b int }

// visit is the first visit to a pair.
type visit struct {
	pair
	letter uint8 // the last one of the smallest word that leads to the pair
	from   int   // the number of the pair before that letter, or -1 for the first pair
}

// queue contains the pairs in the order of their first visits, which numbers them.
type queue struct {
	visits  []visit
	numbers map[pair]int
}

// number returns the number of the visited pair, which joins the queue if it has none.
func (q *queue) number(v visit) int {
	k, known := q.numbers[v.pair]
	if !known {
		k = len(q.visits)
		q.numbers[v.pair] = k
		q.visits = append(q.visits, v)
	}
	return k
}

// pairs yields the pairs with their numbers, also those that join the queue meanwhile.
func (q *queue) pairs() iter.Seq2[int, pair] {
	return func(yield func(int, pair) bool) {
		for k := 0; k < len(q.visits); k++ {
			if !yield(k, q.visits[k].pair) {
				return
			}
		}
	}
}

// wordTo returns the smallest word that leads to pair k.
func (q *queue) wordTo(k int) []uint8 {
	var w []uint8
	for v := q.visits[k]; v.from >= 0; v = q.visits[v.from] {
		w = append(w, v.letter)
	}
	slices.Reverse(w)
	return w
}

// product is the automaton whose states are the reachable pairs, numbered by first visit.
type product struct {
	api.DFA
	queue
}

// multiply returns the product of two automata. A pair is final if the condition says so of its states.
func multiply(a, b api.DFA, final func(inA, inB bool) bool) (product, api.Errno) {
	if fault := checkBoth(a, b); fault != api.OK {
		return product{}, fault
	}
	p := product{DFA: api.DFA{Vars: a.Vars}, queue: queue{numbers: map[pair]int{}}}
	p.number(visit{pair: pair{a.Start, b.Start}, from: -1})
	for k, s := range p.pairs() {
		row := make([]int, len(a.Next[s.a]))
		for x, to := range a.Next[s.a] {
			row[x] = p.number(visit{pair{to, b.Next[s.b][x]}, uint8(x), k})
		}
		if len(p.visits) > api.MaxComputed {
			return product{}, api.ErrBudget
		}
		p.Next, p.Final = append(p.Next, row), append(p.Final, final(a.Final[s.a], b.Final[s.b]))
	}
	return p, api.OK
}

// combine returns the minimal automaton of the product.
func combine(a, b api.DFA, final func(inA, inB bool) bool) (api.DFA, api.Errno) {
	p, fault := multiply(a, b, final)
	if fault != api.OK {
		return api.DFA{}, fault
	}
	return minimal.Minimize(p.DFA)
}
