package project_test

import (
	"math"
	"slices"
	"testing"

	"sentinel/api"
	"sentinel/internal/dfatest"
	"sentinel/project"
)

// faultOf returns what is invalid about an automaton, or that v is not one of its variables.
func faultOf(d api.DFA, v int) api.Errno {
	if e := dfatest.ErrorOf(d); e != api.OK {
		return e
	}
	if v < 0 || v > d.Vars-1 {
		return api.ErrVars
	}
	return api.OK
}

// isRenaming reports whether each variable occurs once in a list.
func isRenaming(perm []int, vars int) bool {
	l := slices.Sorted(slices.Values(perm))
	for k, v := range l {
		if k != v {
			return false
		}
	}
	return len(l) == vars
}

// checkAnyQuantifier checks a quantifier for any arguments.
func checkAnyQuantifier(t *testing.T, q quantifier, d api.DFA, v, budget int) api.Errno {
	t.Helper()
	fault := faultOf(d, v)
	if fault == api.OK && (budget < 1 || budget > 4096) {
		fault = api.ErrArg
	}
	var want quantified
	if fault == api.OK {
		want = q.model(d, v)
		if want.sets > budget {
			want.DFA, fault = api.DFA{}, api.ErrBudget
		}
	}
	checkQuantifier(t, q, d, v, budget, want.DFA, fault)
	return fault
}

// checkAnyVariable checks the functions with a variable and without a budget for any arguments.
func checkAnyVariable(t *testing.T, d api.DFA, v int) {
	t.Helper()
	fault := faultOf(d, v)
	switch {
	case fault != api.OK:
		checkIgnores(t, d, v, false, fault)
		checkDrop(t, d, v, api.DFA{}, fault)
	case ignoredBy(d, v):
		checkIgnores(t, d, v, true, api.OK)
		checkDrop(t, d, v, droppedOf(d, v), api.OK)
	default:
		checkIgnores(t, d, v, false, api.OK)
		checkDrop(t, d, v, api.DFA{}, api.ErrVars)
	}
	switch fault = dfatest.ErrorOf(d); {
	case fault != api.OK:
		checkInsert(t, d, v, api.DFA{}, fault)
	case v < 0 || v > d.Vars || d.Vars == 6:
		checkInsert(t, d, v, api.DFA{}, api.ErrVars)
	default:
		checkInsert(t, d, v, insertedOf(d, v), api.OK)
	}
}

// R1 and R2: no function panics, the errors come in their order, and with an error there is no result.
func TestErrorsOfAnyArguments(t *testing.T) {
	draw := dfatest.Choice(118)
	budgets := []int{math.MinInt, -1, 0, 1, 2, 3, 5, 4095, 4096, 4097, math.MaxInt}
	counts, renamed := map[api.Errno]int{}, 0
	for range 30000 {
		d, v := draw.Wild(), draw.Below(5)-1
		if draw.Below(50) == 0 {
			v = []int{math.MinInt, 6, 63, 64, math.MaxInt}[draw.Below(5)]
		}
		for _, q := range quantifiers() {
			counts[checkAnyQuantifier(t, q, d, v, budgets[draw.Below(len(budgets))])]++
		}
		checkAnyVariable(t, d, v)
		perm := make([]int, draw.Below(4))
		for k := range perm {
			perm[k] = draw.Below(4) - draw.Below(2)*draw.Below(2)
		}
		switch e := dfatest.ErrorOf(d); {
		case e != api.OK:
			checkRename(t, d, perm, api.DFA{}, e)
		case !isRenaming(perm, d.Vars):
			checkRename(t, d, perm, api.DFA{}, api.ErrVars)
		default:
			checkRename(t, d, perm, renamedOf(d, perm), api.OK)
			renamed++
		}
	}
	for _, e := range []api.Errno{api.OK, api.ErrArg, api.ErrForm, api.ErrShort, api.ErrVars, api.ErrState, api.ErrBudget} {
		if counts[e] < 300 {
			t.Errorf("only %d quantifiers have the error %d", counts[e], e)
		}
	}
	if renamed < 500 {
		t.Errorf("only %d renamings are valid", renamed)
	}
}

// R2: the automaton is checked before the variable, the variable before the budget, and that before what it allows.
func TestOrderOfErrors(t *testing.T) {
	for _, x := range dfatest.Faulties() {
		for _, v := range []int{-1, 0, 1, 7} {
			checkNoVariable(t, x.DFA, v, x.Fault)
			checkInsert(t, x.DFA, v, api.DFA{}, x.Fault)
		}
		for _, perm := range [][]int{nil, {0}, {1, 1}, {0, 1}} {
			checkRename(t, x.DFA, perm, api.DFA{}, x.Fault)
		}
	}
	for _, v := range []int{-1, 2} {
		checkNoVariable(t, exactly(), v, api.ErrVars)
		checkNoVariable(t, dfatest.Constant(2, true), v, api.ErrVars)
	}
	for _, q := range quantifiers() {
		checkQuantifier(t, q, exactly(), 0, 0, api.DFA{}, api.ErrArg)
		checkQuantifier(t, q, guess(2, 0, 1, 13), 0, 4097, api.DFA{}, api.ErrArg)
		checkQuantifier(t, q, exactly(), 0, 1, api.DFA{}, api.ErrBudget)
	}
}

// R1: nil and empty slices are equivalent.
func TestNilIsEmpty(t *testing.T) {
	for _, rows := range [][][]int{nil, {}} {
		for _, final := range [][]bool{nil, {}} {
			d := api.DFA{Vars: 1, Next: rows, Final: final}
			checkNoVariable(t, d, 0, api.ErrShort)
			checkInsert(t, d, 0, api.DFA{}, api.ErrShort)
			checkRename(t, d, []int{0}, api.DFA{}, api.ErrShort)
		}
	}
	for _, perm := range [][]int{nil, {}} {
		checkRename(t, dfatest.Line(0, 5), perm, dfatest.Line(0, 5), api.OK)
		checkRename(t, exactly(), perm, api.DFA{}, api.ErrVars)
	}
}

// function is a function of the package that returns an automaton, for one of the variables.
type function struct {
	name string
	of   func(d api.DFA, v int) (api.DFA, api.Errno)
}

// functions returns all functions that return an automaton.
func functions() []function {
	return []function{
		{"Exists", func(d api.DFA, v int) (api.DFA, api.Errno) { return project.Exists(d, v, 4096) }},
		{"Forall", func(d api.DFA, v int) (api.DFA, api.Errno) { return project.Forall(d, v, 4096) }},
		{"Drop", project.Drop},
		{"Insert", project.Insert},
		{"Rename", func(d api.DFA, v int) (api.DFA, api.Errno) { return project.Rename(d, turned(d.Vars)...) }},
	}
}

// turned returns the renaming that moves each bit to the next one.
func turned(vars int) []int {
	var l []int
	for k := range vars {
		l = append(l, (k+1)%vars)
	}
	return l
}

// R3: arguments are not changed, and what is beyond their length is not read.
func TestArgumentsAreLeft(t *testing.T) {
	for _, s := range some(3) {
		d := dfatest.Padded(s.d)
		whole := dfatest.Whole(d)
		perm := append(turned(s.d.Vars), -1, 99)[:s.d.Vars]
		for _, q := range quantifiers() {
			checkQuantifier(t, q, d, s.v, 4096, q.model(s.d, s.v).DFA, api.OK)
		}
		checkAnyVariable(t, d, s.v)
		checkRename(t, d, perm, renamedOf(s.d, turned(s.d.Vars)), api.OK)
		if !dfatest.Same(dfatest.Whole(d), whole) {
			t.Errorf("the argument %v has become %v", whole, d)
		}
		if !slices.Equal(perm[:s.d.Vars+2], append(turned(s.d.Vars), -1, 99)) {
			t.Errorf("the renaming has become %d", perm)
		}
	}
}

// R3: results share no memory with arguments, with other results, or within themselves.
func TestResultsShareNoMemory(t *testing.T) {
	results := map[string]int{}
	for _, s := range some(3) {
		for _, f := range functions() {
			d := dfatest.Copied(s.d)
			first, e := f.of(d, s.v)
			if e != api.OK {
				continue
			}
			second, _ := f.of(d, s.v)
			want := dfatest.Copied(first)
			if !dfatest.Apart(first.Next) {
				t.Errorf("%s: rows of the result for %v share memory", f.name, s.d)
			}
			dfatest.Overwrite(first.Final, !want.Final[0])
			dfatest.Overwrite(first.Next, nil)
			if !dfatest.Same(d, s.d) || !dfatest.Same(second, want) {
				t.Errorf("%s: changing the result changes the argument %v or another result", f.name, s.d)
			}
			for _, row := range d.Next {
				dfatest.Overwrite(row, -7)
			}
			dfatest.Overwrite(d.Final, !d.Final[0])
			if !dfatest.Same(second, want) {
				t.Errorf("%s: changing the argument changes the result %v to %v", f.name, want, second)
			}
			results[f.name]++
		}
	}
	for _, f := range functions() {
		if results[f.name] < 40 {
			t.Errorf("%s has only %d results", f.name, results[f.name])
		}
	}
}

// The rows of an automaton may be one and the same.
func TestRowsThatAreShared(t *testing.T) {
	for _, s := range some(4) {
		d := dfatest.Copied(s.d)
		for k := range d.Next {
			d.Next[k] = d.Next[0]
		}
		for _, q := range quantifiers() {
			checkQuantifier(t, q, d, s.v, 4096, q.model(d, s.v).DFA, api.OK)
		}
		checkAnyVariable(t, d, s.v)
		checkRename(t, d, turned(d.Vars), renamedOf(d, turned(d.Vars)), api.OK)
	}
}

// P1: calls at the same time do not influence each other.
func TestParallelCalls(t *testing.T) {
	work := some(8)
	done := make(chan bool)
	for k := range 4 {
		go func() {
			ok := true
			for i := range work {
				s := work[(i*7+k*20)%len(work)]
				for _, q := range quantifiers() {
					m, e := q.of(s.d, s.v, 4096)
					ok = ok && e == api.OK && dfatest.Same(m, q.model(s.d, s.v).DFA)
				}
				m, e := project.Rename(s.d, turned(s.d.Vars)...)
				ok = ok && e == api.OK && dfatest.Same(m, renamedOf(s.d, turned(s.d.Vars)))
				is, e := project.Ignores(s.d, s.v)
				ok = ok && e == api.OK && is == ignoredBy(s.d, s.v)
			}
			done <- ok
		}()
	}
	for range 4 {
		if !<-done {
			t.Error("a call in parallel has another result")
		}
	}
}
