package project

import (
	"sentinel/api"
	"sentinel/subset"
)

// checkVariable returns what is invalid about an automaton, or that v is not one of its variables.
func checkVariable(d api.DFA, v int) api.Errno {
	if fault := subset.Check(d); fault != api.OK {
		return fault
	}
	if v < 0 || v >= d.Vars {
		return api.ErrVars
	}
	return api.OK
}

// checkQuantifier returns what is invalid about the arguments of a quantifier.
func checkQuantifier(d api.DFA, v, budget int) api.Errno {
	if fault := checkVariable(d, v); fault != api.OK {
		return fault
	}
	if budget < 1 || budget > api.MaxComputed {
		return api.ErrArg
	}
	return api.OK
}

// checkPlace returns what is invalid about an automaton, or that no variable v can join its variables.
func checkPlace(d api.DFA, v int) api.Errno {
	if fault := subset.Check(d); fault != api.OK {
		return fault
	}
	if v < 0 || v > d.Vars || d.Vars == api.MaxVars {
		return api.ErrVars
	}
	return api.OK
}

// checkRenaming returns what is invalid about an automaton, or that perm is not a renaming for its variables.
func checkRenaming(d api.DFA, perm []int) api.Errno {
	if fault := subset.Check(d); fault != api.OK {
		return fault
	}
	if len(perm) != d.Vars {
		return api.ErrVars
	}
	used := make([]bool, d.Vars)
	for _, v := range perm {
		if v < 0 || v >= d.Vars || used[v] {
			return api.ErrVars
		}
		used[v] = true
	}
	return api.OK
}
