package compile

import (
	"slices"

	"sentinel/api"
)

// mostLooks is the greatest number of look-behinds in an expression: each of them has at
// least two pieces, and all but the first one another piece that joins them.
const mostLooks = (api.MaxNodes + 1) / 3

// history is what the look-behinds have seen: for each of them 1 plus the state to which the letters so far lead in
// its automaton, or 0 if it is not asked any more.
type history [mostLooks]uint16

// noHistory returns the history of an expression without look-behinds.
func noHistory() []history {
	return []history{{}}
}

// firstHistory returns the history before the first letter.
func (c *compiler) firstHistory() history {
	var h history
	for k, d := range c.behind {
		h[k] = uint16(d.Start + 1)
	}
	return h
}

// seen returns the history after one more letter.
func (c *compiler) seen(h history, x uint8) history {
	for k, d := range c.behind {
		if h[k] > 0 {
			h[k] = uint16(d.Next[h[k]-1][x] + 1)
		}
	}
	return h
}

// without returns the history for positions at which the given look-behinds are not asked any more.
func (h history) without(behind []int) history {
	for _, k := range behind {
		h[k] = 0
	}
	return h
}

// allWithout returns the histories that there are without the given look-behinds.
func allWithout(l []history, behind []int) []history {
	var rest []history
	for _, h := range l {
		rest = append(rest, h.without(behind))
	}
	return distinct(rest)
}

// distinct returns the histories without repetitions, in the memory of l.
func distinct(l []history) []history {
	known := map[history]bool{}
	return slices.DeleteFunc(l, func(h history) bool {
		again := known[h]
		known[h] = true
		return again
	})
}
