package minimal_test

import (
	"math"
	"slices"
	"testing"

	"sentinel/api"
	"sentinel/internal/dfatest"
	"sentinel/minimal"
)

// R1 and R2: no function panics, the error of subset.Check comes first, and with an error there is no result.
func TestErrorsOfAnyAutomata(t *testing.T) {
	draw := dfatest.Choice(84)
	counts := map[api.Errno]int{}
	for range 20000 {
		d := draw.Wild()
		fault := dfatest.ErrorOf(d)
		counts[fault]++
		if fault != api.OK {
			checkFault(t, d, fault)
			continue
		}
		table := dfatest.Distinctions(d)
		checkMinimize(t, d, dfatest.Minimized(d), api.OK)
		checkClasses(t, d, dfatest.Together(table, math.MaxInt), api.OK)
		k := draw.Below(7) - 2
		checkRounds(t, d, k, dfatest.Together(table, k), api.OK)
		s, u := draw.Below(len(d.Next)), draw.Below(len(d.Next)+2)-1
		if u >= 0 && u < len(d.Next) {
			checkPair(t, d, s, u, table[s][u], api.OK)
		} else {
			checkPair(t, d, s, u, dfatest.Distinction{}, api.ErrState)
			checkPair(t, d, u, s, dfatest.Distinction{}, api.ErrState)
		}
	}
	for _, e := range []api.Errno{api.OK, api.ErrForm, api.ErrShort, api.ErrVars, api.ErrState} {
		if counts[e] < 500 {
			t.Errorf("only %d automata have the error %d", counts[e], e)
		}
	}
}

// R2: the automaton is checked before the states, and all of it.
func TestOrderOfErrors(t *testing.T) {
	for _, x := range []struct {
		name   string
		change func(d *api.DFA)
		want   api.Errno
	}{
		{"too many variables", func(d *api.DFA) { d.Vars, d.Next = 7, nil }, api.ErrVars},
		{"no rows", func(d *api.DFA) { d.Next, d.Start = nil, 9 }, api.ErrShort},
		{"too many rows", func(d *api.DFA) { d.Next, d.Final = make([][]int, 4097), nil }, api.ErrLong},
		{"too few final states", func(d *api.DFA) { d.Final, d.Start = d.Final[:2], 3 }, api.ErrForm},
		{"no start state", func(d *api.DFA) { d.Start, d.Next[0] = 3, nil }, api.ErrState},
		{"a row too short", func(d *api.DFA) { d.Next[2] = []int{9} }, api.ErrForm},
		{"a row with no state", func(d *api.DFA) { d.Next[2] = []int{2, 3} }, api.ErrState},
	} {
		d := examples()[0]
		x.change(&d)
		if e := dfatest.ErrorOf(d); e != x.want {
			t.Errorf("%s: the model has the error %d, want %d", x.name, e, x.want)
		}
		checkFault(t, d, x.want)
	}
}

// R1: nil and empty slices are equivalent.
func TestNilIsEmpty(t *testing.T) {
	for _, rows := range [][][]int{nil, {}} {
		for _, final := range [][]bool{nil, {}} {
			checkFault(t, api.DFA{Next: rows, Final: final}, api.ErrShort)
			checkFault(t, api.DFA{Vars: -1, Next: rows, Final: final}, api.ErrVars)
		}
	}
	for _, row := range [][]int{nil, {}} {
		checkFault(t, api.DFA{Next: [][]int{row}, Final: []bool{true}}, api.ErrForm)
	}
}

// R3: arguments are not changed, and what is beyond their length is not read.
func TestArgumentsAreLeft(t *testing.T) {
	for _, s := range some(5) {
		d := dfatest.Padded(s.DFA)
		before := dfatest.Whole(d)
		table := dfatest.Distinctions(s.DFA)
		checkMinimize(t, d, dfatest.Minimized(s.DFA), api.OK)
		checkClasses(t, d, dfatest.Together(table, math.MaxInt), api.OK)
		checkRounds(t, d, 1, dfatest.Together(table, 1), api.OK)
		for u, want := range table[0] {
			checkPair(t, d, 0, u, want, api.OK)
		}
		checkPair(t, d, 0, len(d.Next), dfatest.Distinction{}, api.ErrState)
		if !dfatest.Same(dfatest.Whole(d), before) {
			t.Errorf("the argument %v has become %v", before, d)
		}
	}
}

// R3: the rows of a minimal automaton share no memory with an argument or with each other.
func TestMinimizeSharesNoMemory(t *testing.T) {
	for _, s := range some(3) {
		d := dfatest.Copied(s.DFA)
		want := dfatest.Minimized(d)
		first, _ := minimal.Minimize(d)
		second, _ := minimal.Minimize(d)
		if !dfatest.Apart(first.Next) {
			t.Errorf("the rows of Minimize(%v) share memory", d)
		}
		dfatest.Overwrite(first.Final, true)
		dfatest.Overwrite(first.Next, nil)
		if !dfatest.Same(d, s.DFA) || !dfatest.Same(second, want) {
			t.Errorf("changing the result of Minimize changes the argument to %v or another result to %v", d, second)
		}
		for _, row := range d.Next {
			dfatest.Overwrite(row, -7)
		}
		dfatest.Overwrite(d.Final, true)
		if !dfatest.Same(second, want) {
			t.Errorf("changing the argument of Minimize changes the result to %v", second)
		}
	}
}

// R3: the same for lists of classes and words.
func TestListsShareNoMemory(t *testing.T) {
	for _, s := range some(3) {
		d := dfatest.Copied(s.DFA)
		table := dfatest.Distinctions(d)
		u := slices.IndexFunc(table[0], func(x dfatest.Distinction) bool { return len(x.Word) > 1 })
		checkLists := func() {
			checkClasses(t, d, dfatest.Together(table, math.MaxInt), api.OK)
			checkRounds(t, d, 1, dfatest.Together(table, 1), api.OK)
			if u >= 0 {
				checkPair(t, d, 0, u, table[0][u], api.OK)
			}
		}
		dfatest.Overwrite(classes(t, d), -7)
		dfatest.Overwrite(rounds(t, d, 1), -7)
		if u >= 0 {
			w, _ := distinguish(t, d, 0, u)
			dfatest.Overwrite(w, 255)
		}
		checkLists()
		if !dfatest.Same(d, s.DFA) {
			t.Errorf("changing a result changes the argument %v to %v", s.DFA, d)
		}
	}
}

// P1: calls at the same time do not influence each other.
func TestParallelCalls(t *testing.T) {
	work := some(10)
	done := make(chan bool)
	for k := range 4 {
		go func() {
			ok := true
			for i := range work {
				d := work[(i*7+k*20)%len(work)].DFA
				table := dfatest.Distinctions(d)
				last := len(d.Next) - 1
				m, e := minimal.Minimize(d)
				l, f := minimal.Rounds(d, 2)
				w, is, g := minimal.Distinguish(d, 0, last)
				ok = ok && e == api.OK && dfatest.Same(m, dfatest.Minimized(d))
				ok = ok && f == api.OK && slices.Equal(l, dfatest.Together(table, 2))
				ok = ok && g == api.OK && is == table[0][last].Is && slices.Equal(w, table[0][last].Word)
			}
			done <- ok
		}()
	}
	for range 4 {
		if !<-done {
			t.Error("a call in parallel has another result")
		}
	}
}
