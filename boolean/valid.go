package boolean

import (
	"sentinel/api"
	"sentinel/subset"
)

// checkBoth returns what is invalid about two automata, or that their alphabets differ.
func checkBoth(a, b api.DFA) api.Errno {
	for _, d := range [2]api.DFA{a, b} {
		if fault := subset.Check(d); fault != api.OK {
			return fault
		}
	}
	if a.Vars != b.Vars {
		return api.ErrVars
	}
	return api.OK
}
