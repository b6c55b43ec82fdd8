package nfa

import (
	"sentinel/api"
	"sentinel/cube"
)

// condition is a condition of validity, and the error of an automaton that does not satisfy it.
type condition struct {
	holds func(n api.NFA) bool
	fault api.Errno
}

// conditions returns the conditions on everything but the single edges, in the order in which they are checked.
func conditions() []condition {
	return []condition{
		{func(n api.NFA) bool { return 0 <= n.Vars && n.Vars <= api.MaxVars }, api.ErrVars},
		{func(n api.NFA) bool { return n.States >= 0 }, api.ErrArg},
		{func(n api.NFA) bool { return isSmall(n.States, len(n.Edges)) }, api.ErrLong},
		{func(n api.NFA) bool { return areAscendingStates(n, n.Start) }, api.ErrState},
		{func(n api.NFA) bool { return areAscendingStates(n, n.Final) }, api.ErrState},
	}
}

// isSmall reports whether an automaton may have so many states and edges.
func isSmall(states, edges int) bool {
	return states <= api.MaxStates && edges <= api.MaxEdges
}

// isState reports whether s is a state.
func isState(n api.NFA, s int) bool {
	return 0 <= s && s < n.States
}

// areAscendingStates reports whether l is a strictly ascending list of states.
func areAscendingStates(n api.NFA, l []int) bool {
	for i, s := range l {
		if !isState(n, s) || i > 0 && l[i-1] >= s {
			return false
		}
	}
	return true
}

// isLetter reports whether x is a letter of the alphabet with vars variables.
func isLetter(x uint8, vars int) bool {
	return int(x) < 1<<vars
}

// letters returns the cube of an edge.
func letters(e api.Edge) api.Cube {
	return api.Cube{Pos: e.Pos, Neg: e.Neg}
}

// checkEdge returns what is invalid about an edge.
func checkEdge(n api.NFA, e api.Edge) api.Errno {
	if !isState(n, e.From) || !isState(n, e.To) {
		return api.ErrState
	}
	return cube.Check(letters(e), n.Vars)
}

// checkWord returns what is invalid about an automaton or a word.
func checkWord(n api.NFA, w []uint8) api.Errno {
	if fault := Check(n); fault != api.OK {
		return fault
	}
	if len(w) > api.MaxWord {
		return api.ErrLong
	}
	for _, x := range w {
		if !isLetter(x, n.Vars) {
			return api.ErrArg
		}
	}
	return api.OK
}

// checkUnion returns why there is no union of a and b.
func checkUnion(a, b api.NFA) api.Errno {
	for _, n := range []api.NFA{a, b} {
		if fault := Check(n); fault != api.OK {
			return fault
		}
	}
	switch {
	case a.Vars != b.Vars:
		return api.ErrVars
	case !isSmall(a.States+b.States, len(a.Edges)+len(b.Edges)):
		return api.ErrLong
	}
	return api.OK
}
