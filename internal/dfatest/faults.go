package dfatest

import "sentinel/api"

// Faulty is an automaton with the error of subset.Check.
type Faulty struct {
	api.DFA
	Fault api.Errno
}

// Faulties returns an automaton for each condition of subset.Check.
func Faulties() []Faulty {
	rows := [][]int{{0, 1}, {1, 1}}
	final := []bool{true, false}
	return []Faulty{
		{api.DFA{Vars: 7, Next: rows, Final: final}, api.ErrVars},
		{api.DFA{Vars: -1, Next: rows, Final: final}, api.ErrVars},
		{api.DFA{Vars: 1}, api.ErrShort},
		{api.DFA{Vars: 1, Next: make([][]int, 4097), Final: make([]bool, 4097)}, api.ErrLong},
		{api.DFA{Vars: 1, Next: rows, Final: final[:1]}, api.ErrForm},
		{api.DFA{Vars: 1, Start: 2, Next: rows, Final: final}, api.ErrState},
		{api.DFA{Vars: 2, Next: rows, Final: final}, api.ErrForm},
		{api.DFA{Vars: 1, Next: [][]int{{0, 1}, {1, 2}}, Final: final}, api.ErrState},
	}
}
