package compile

import (
	"sentinel/api"
	"sentinel/boolean"
	"sentinel/cube"
)

// operator returns the closure that compiles a piece of a plain expression, given the automata of its children.
func (c *compiler) operator(p api.Piece) func(a, b api.DFA) (api.DFA, api.Errno) {
	switch p.Op {
	case api.RxEmpty:
		return func(_, _ api.DFA) (api.DFA, api.Errno) { return c.word() }
	case api.RxLetter:
		return func(_, _ api.DFA) (api.DFA, api.Errno) { return c.word(api.Cube{Pos: p.Pos, Neg: p.Neg}) }
	case api.RxCat:
		return c.concatenate
	case api.RxAlt:
		return boolean.Or
	case api.RxAnd:
		return boolean.And
	case api.RxNot:
		return func(a, _ api.DFA) (api.DFA, api.Errno) { return boolean.Not(a) }
	case api.RxStar:
		return func(a, _ api.DFA) (api.DFA, api.Errno) { return c.repeat(a) }
	}
	return func(_, _ api.DFA) (api.DFA, api.Errno) { return boolean.Not(c.all()) }
}

// all returns the automaton of all words.
func (c *compiler) all() api.DFA {
	d, _ := boolean.All(c.vars)
	return d
}

// word returns the automaton of the words whose letters are in the given cubes, one in each.
func (c *compiler) word(cubes ...api.Cube) (api.DFA, api.Errno) {
	step := func(read int, x uint8) int {
		if read == nowhere || read == len(cubes) || !cube.Has(cubes[read], x) {
			return nowhere
		}
		return read + 1
	}
	return automatonOf(c.limits, 0, step, func(read int) bool { return read == len(cubes) })
}

// turn is a state of a repetition.
type turn struct {
	first  bool   // whether no letter has been read
	states string // where the word may be that is being repeated
}

// repeat returns the automaton of the words that are put together from words that a accepts.
func (c *compiler) repeat(a api.DFA) (api.DFA, api.Errno) {
	all := setsOf(a)
	again := rune(a.Start)
	step := func(t turn, x uint8) turn {
		states := all.after(t.states, x)
		if all.someFinal(states) {
			states = append(states, again)
		}
		return turn{states: all.text(states)}
	}
	start := turn{true, all.text([]rune{again})}
	return automatonOf(c.limits, start, step, func(t turn) bool { return t.first || all.isFinal(t.states) })
}

// concatenate returns the automaton of the words that consist of one that a accepts and one that b accepts.
func (c *compiler) concatenate(a, b api.DFA) (api.DFA, api.Errno) {
	l, fault := c.before(noHistory(), a, constant(b, noHistory()))
	return l.DFA, fault
}

// place is the state of an automaton to which some letters lead, with the history after them.
type place struct {
	state   int // or nowhere if no word is accepted any more
	history history
}

// isEnd reports whether a word that an automaton accepts ends at a place.
func isEnd(a api.DFA, p place) bool {
	return p.state != nowhere && a.Final[p.state]
}

// walk returns the places at which the words of an automaton begin, and how letters lead from one place to another.
func (c *compiler) walk(a api.DFA) (start func(h history) place, step func(p place, x uint8) place) {
	dead := lasting(a, false)
	at := func(state int, h history) place {
		if state == dead {
			return place{state: nowhere}
		}
		return place{state, h}
	}
	start = func(h history) place { return at(a.Start, h) }
	step = func(p place, x uint8) place {
		if p.state == nowhere {
			return p
		}
		return at(a.Next[p.state][x], c.seen(p.history, x))
	}
	return start, step
}

// run is a state of a concatenation.
type run struct {
	place         // of the first word
	states string // where the second word may be
}

// before returns the language of the words that consist of one that a accepts and one that belongs to
// another language for the history after the first one.
func (c *compiler) before(histories []history, a api.DFA, after language) (language, api.Errno) {
	first, next := c.walk(a)
	second := setsOf(after.DFA)
	at := func(p place, states []rune) run {
		if isEnd(a, p) {
			states = append(states, rune(after.starts[p.history]))
		}
		text := second.text(states)
		if second.isFull(text) {
			p = place{state: nowhere} // All words are accepted, wherever the first word is.
		}
		return run{p, text}
	}
	start := func(h history) run { return at(first(h), nil) }
	step := func(r run, x uint8) run { return at(next(r.place, x), second.after(r.states, x)) }
	return languageOf(c.limits, histories, start, step, func(r run) bool { return second.isFinal(r.states) })
}

// ends returns the histories that there may be after a word that a accepts.
func (c *compiler) ends(histories []history, a api.DFA) ([]history, api.Errno) {
	first, next := c.walk(a)
	var starts []place
	for _, h := range histories {
		starts = append(starts, first(h))
	}
	r, fault := explore(c.limits, starts, next)
	if fault != api.OK {
		return nil, fault
	}
	var l []history
	for _, p := range r.states {
		if isEnd(a, p) {
			l = append(l, p.history)
		}
	}
	return distinct(l), api.OK
}

// pair is a state of a product.
type pair struct{ a, b int }

// product returns the language of the words that lead to a final pair of states of two automata.
// A pair is final if the condition says so of its states.
func (c *compiler) product(histories []history, start func(h history) pair, a, b api.DFA, final func(inA, inB bool) bool) (language, api.Errno) {
	step := func(s pair, x uint8) pair { return pair{a.Next[s.a][x], b.Next[s.b][x]} }
	return languageOf(c.limits, histories, start, step, func(s pair) bool { return final(a.Final[s.a], b.Final[s.b]) })
}
