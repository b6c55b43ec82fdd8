package compile

import (
	"slices"

	"sentinel/api"
)

// part is a block of an expression that looks around, or a block beside one. It leads from the position before a factor
// that it matches to the position after it. What a look-behind asks for is found by going through the parts
// forward, and then what a look-ahead asks for by going through them backward.
type part struct {
	// forward returns the histories that there may be at the position after the part, given those before it.
	forward func(histories []history) ([]history, api.Errno)
	// backward returns what may follow at the position before the part, for the histories that forward was given,
	// if the given words may follow at the position after it, for the histories that forward returned.
	backward func(after language) (language, api.Errno)
	behind   []int // the look-behinds of the part
}

// plain returns the part that matches what an automaton accepts.
func (c *compiler) plain(a api.DFA) part {
	var here []history
	return part{
		forward: func(histories []history) ([]history, api.Errno) {
			here = histories
			return c.ends(here, a)
		},
		backward: func(after language) (language, api.Errno) {
			return c.before(here, a, after)
		},
	}
}

// sequence returns the part that matches what a matches and then what b matches.
func sequence(a, b part) part {
	return part{
		forward: func(histories []history) ([]history, api.Errno) {
			between, fault := a.forward(histories)
			if fault != api.OK {
				return nil, fault
			}
			return b.forward(between)
		},
		backward: func(after language) (language, api.Errno) {
			between, fault := b.backward(after)
			if fault != api.OK {
				return language{}, fault
			}
			return a.backward(between)
		},
		behind: slices.Concat(a.behind, b.behind),
	}
}

// choice returns the part that matches what a or b matches. Neither of them asks the look-behinds of the other one.
func (c *compiler) choice(a, b part) part {
	var here []history
	return part{
		forward: func(histories []history) ([]history, api.Errno) {
			here = histories
			afterA, fault := a.forward(allWithout(here, b.behind))
			if fault != api.OK {
				return nil, fault
			}
			afterB, fault := b.forward(allWithout(here, a.behind))
			if fault != api.OK {
				return nil, fault
			}
			return distinct(slices.Concat(afterA, afterB)), api.OK
		},
		backward: func(after language) (language, api.Errno) {
			inA, fault := a.backward(after)
			if fault != api.OK {
				return language{}, fault
			}
			inB, fault := b.backward(after)
			if fault != api.OK {
				return language{}, fault
			}
			start := func(h history) pair {
				return pair{inA.starts[h.without(b.behind)], inB.starts[h.without(a.behind)]}
			}
			return c.product(here, start, inA.DFA, inB.DFA, func(is, other bool) bool { return is || other })
		},
		behind: slices.Concat(a.behind, b.behind),
	}
}

// lookAhead returns the part that matches no letter, where the automaton accepts all that follows.
func (c *compiler) lookAhead(a api.DFA) part {
	var here []history
	return part{
		forward: func(histories []history) ([]history, api.Errno) {
			here = histories
			return here, api.OK
		},
		backward: func(after language) (language, api.Errno) {
			start := func(h history) pair { return pair{a.Start, after.starts[h]} }
			return c.product(here, start, a, after.DFA, func(is, other bool) bool { return is && other })
		},
	}
}

// lookBehind returns the part that matches no letter, where look-behind k allows it.
func (c *compiler) lookBehind(k int) part {
	behind := []int{k}
	allows := func(h history) bool { return c.behind[k].Final[h[k]-1] }
	var here []history
	return part{
		forward: func(histories []history) ([]history, api.Errno) {
			here = histories
			refused := func(h history) bool { return !allows(h) }
			return allWithout(slices.DeleteFunc(slices.Clone(here), refused), behind), api.OK
		},
		backward: func(after language) (language, api.Errno) {
			start := func(h history) int {
				if !allows(h) {
					return nowhere
				}
				return after.starts[h.without(behind)]
			}
			step := func(s int, x uint8) int {
				if s == nowhere {
					return nowhere
				}
				return after.Next[s][x]
			}
			final := func(s int) bool { return s != nowhere && after.Final[s] }
			return languageOf(c.limits, here, start, step, final)
		},
		behind: behind,
	}
}
