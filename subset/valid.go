package subset

import "sentinel/api"

// lettersOver returns the number of letters over vars variables.
func lettersOver(vars int) int {
	return 1 << vars
}

// isState reports whether s is a state.
func isState(d api.DFA, s int) bool {
	return 0 <= s && s < len(d.Next)
}

// checkShape returns what is invalid about everything but the rows.
func checkShape(d api.DFA) api.Errno {
	switch {
	case d.Vars < 0 || d.Vars > api.MaxVars:
		return api.ErrVars
	case len(d.Next) == 0:
		return api.ErrShort
	case len(d.Next) > api.MaxComputed:
		return api.ErrLong
	case len(d.Final) != len(d.Next):
		return api.ErrForm
	case !isState(d, d.Start):
		return api.ErrState
	}
	return api.OK
}

// checkRow returns what is invalid about the successors of a state.
func checkRow(d api.DFA, row []int) api.Errno {
	if len(row) != lettersOver(d.Vars) {
		return api.ErrForm
	}
	for _, s := range row {
		if !isState(d, s) {
			return api.ErrState
		}
	}
	return api.OK
}

// checkWord returns what is invalid about an automaton or a word.
func checkWord(d api.DFA, w []uint8) api.Errno {
	if fault := Check(d); fault != api.OK {
		return fault
	}
	if len(w) > api.MaxWord {
		return api.ErrLong
	}
	for _, x := range w {
		if int(x) >= lettersOver(d.Vars) {
			return api.ErrArg
		}
	}
	return api.OK
}
