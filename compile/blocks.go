package compile

import "sentinel/api"

// compiler compiles one expression.
type compiler struct {
	limits
	behind []api.DFA // for each look-behind that has been compiled the automaton of the words after which it matches
}

// block is a compiled block of an expression.
type block struct {
	looks     bool    // whether it looks around
	automaton api.DFA // of the words that it accepts if it does not
	part      part    // if it does
}

// compile returns the automaton of a valid expression.
func (c *compiler) compile(e api.Regex) (api.DFA, api.Errno) {
	blocks := make([]block, len(e))
	for i, p := range e {
		// A field that a piece does not use is 0, and the block that it selects makes no difference.
		b, fault := c.block(p, blocks[p.A], blocks[p.B])
		if fault != api.OK {
			return api.DFA{}, fault
		}
		blocks[i] = b
	}
	whole := blocks[len(e)-1]
	if !whole.looks {
		return whole.automaton, api.OK
	}
	return c.automaton(whole.part)
}

// block compiles a piece, given the blocks of its children.
func (c *compiler) block(p api.Piece, a, b block) (block, api.Errno) {
	switch {
	case p.Op == api.RxAhead:
		words, fault := c.concatenate(a.automaton, c.all())
		return block{looks: true, part: c.lookAhead(words)}, fault
	case p.Op == api.RxBehind:
		words, fault := c.concatenate(c.all(), a.automaton)
		c.behind = append(c.behind, words)
		return block{looks: true, part: c.lookBehind(len(c.behind) - 1)}, fault
	case !a.looks && !b.looks:
		return c.plainBlock(p, a.automaton, b.automaton)
	case p.Op == api.RxAlt:
		return block{looks: true, part: c.choice(c.partOf(a), c.partOf(b))}, api.OK
	}
	return block{looks: true, part: sequence(c.partOf(a), c.partOf(b))}, api.OK
}

// plainBlock compiles a piece of a plain expression, given the automata of its children.
func (c *compiler) plainBlock(p api.Piece, a, b api.DFA) (block, api.Errno) {
	compiled := c.operator(p)
	d, fault := compiled(a, b)
	switch {
	case fault != api.OK:
		return block{}, fault
	case len(d.Next) > c.budget:
		return block{}, api.ErrBudget
	}
	return block{automaton: d}, api.OK
}

// partOf returns a block as a part of a larger one that looks around.
func (c *compiler) partOf(b block) part {
	if b.looks {
		return b.part
	}
	return c.plain(b.automaton)
}

// automaton returns the automaton of the words that a part matches from their first to their last position.
func (c *compiler) automaton(whole part) (api.DFA, api.Errno) {
	last, fault := whole.forward([]history{c.firstHistory()})
	if fault != api.OK {
		return api.DFA{}, fault
	}
	nothing, fault := c.word()
	if fault != api.OK {
		return api.DFA{}, fault
	}
	// There is only one history before the first letter, so that the automaton is minimal.
	l, fault := whole.backward(constant(nothing, last))
	return l.DFA, fault
}
