package minimal

import (
	"sentinel/api"
	"sentinel/subset"
)

// isState reports whether s is a state.
func isState(d api.DFA, s int) bool {
	return 0 <= s && s < len(d.Next)
}

// checkStates returns what is invalid about an automaton or two of its states.
func checkStates(d api.DFA, s, t int) api.Errno {
	if fault := subset.Check(d); fault != api.OK {
		return fault
	}
	if !isState(d, s) || !isState(d, t) {
		return api.ErrState
	}
	return api.OK
}
