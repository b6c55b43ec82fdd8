package project_test

import (
	"math"
	"testing"

	"sentinel/api"
	"sentinel/internal/dfatest"
	"sentinel/project"
	"sentinel/subset"
)

// P11.1

func TestQuantifiers(t *testing.T) {
	for _, q := range quantifiers() {
		empty, all, many, ignoring := 0, 0, 0, 0
		for _, s := range samples() {
			want := q.model(s.d, s.v)
			checkSets(t, q, s.d, s.v, want.sets, want.DFA)
			checkQuantifier(t, q, s.d, s.v, 4096, want.DFA, api.OK)
			switch {
			case dfatest.Same(want.DFA, dfatest.Constant(s.d.Vars, false)):
				empty++
			case dfatest.Same(want.DFA, dfatest.Constant(s.d.Vars, true)):
				all++
			case want.sets > len(s.d.Next):
				many++
			case dfatest.Same(want.DFA, dfatest.Minimized(s.d)):
				ignoring++
			}
		}
		if empty < 20 || all < 20 || many < 40 || ignoring < 40 {
			t.Errorf("%s: %d results accept no word, %d all words, %d come from many sets, %d ignore the variable", q.name, empty, all, many, ignoring)
		}
	}
}

func TestWordsOfQuantifiers(t *testing.T) {
	differ := 0
	for _, s := range samples() {
		some, e := exists().of(s.d, s.v, 4096)
		every, f := forall().of(s.d, s.v, 4096)
		if e != api.OK || f != api.OK {
			t.Fatalf("%v: errors %d and %d", s.d, e, f)
		}
		for _, w := range s.words {
			if len(w) > 12 {
				continue
			}
			inSome, inEvery := false, true
			for _, u := range variantsOf(w, s.v) {
				is := accepts(s.d, u)
				inSome, inEvery = inSome || is, inEvery && is
			}
			a, e := subset.Accepts(some, w)
			b, f := subset.Accepts(every, w)
			if e != api.OK || f != api.OK || a != inSome || b != inEvery {
				t.Errorf("%v, variable %d: %d is accepted by Exists: %t, %d, and by Forall: %t, %d, want %t and %t", s.d, s.v, w, a, e, b, f, inSome, inEvery)
			}
			if inSome != inEvery {
				differ++
			}
		}
	}
	if differ < 1000 {
		t.Errorf("for only %d words the quantifiers differ", differ)
	}
}

func TestQuantifiersOfExamples(t *testing.T) {
	single := api.DFA{Vars: 2, Next: [][]int{{1, 1, 1, 1}, {2, 2, 2, 2}, {2, 2, 2, 2}}, Final: []bool{false, true, false}}
	nothing := dfatest.Constant(2, false)
	for v := range 2 {
		// Two of the states follow the first letter, and one of them the second one.
		checkSets(t, exists(), exactly(), v, 3, single)
		checkSets(t, exists(), single, v, 3, single)
		checkSets(t, forall(), exactly(), v, 3, nothing)
		checkSets(t, forall(), single, v, 3, single)
		checkSets(t, exists(), nothing, v, 1, nothing)
		checkSets(t, forall(), nothing, v, 1, nothing)
		checkSets(t, exists(), dfatest.Constant(2, true), v, 1, dfatest.Constant(2, true))
		checkSets(t, forall(), dfatest.Constant(2, true), v, 1, dfatest.Constant(2, true))
	}
	// The words of odd length that contain the variable an odd number of times, and one that ignores the variable.
	odd := api.DFA{Vars: 1, Next: [][]int{{2, 1}, {3, 0}, {0, 3}, {1, 2}}, Final: []bool{false, true, false, false}}
	length := api.DFA{Vars: 1, Next: [][]int{{1, 1}, {0, 0}}, Final: []bool{false, true}}
	checkSets(t, exists(), odd, 0, 3, length)
	checkSets(t, forall(), odd, 0, 3, dfatest.Constant(1, false))
	checkSets(t, exists(), length, 0, 2, length)
	checkSets(t, forall(), length, 0, 2, length)
}

// Each of up to six variables is quantified, where the automaton looks at each of them.
func TestEachVariable(t *testing.T) {
	for vars := 1; vars <= 6; vars++ {
		for a := range vars {
			d := dfatest.Recent(vars, a, 3)
			for v := range vars {
				if v != a {
					checkSets(t, exists(), d, v, 8, d)
					checkSets(t, forall(), d, v, 8, d)
					continue
				}
				checkSets(t, exists(), d, v, 4, dfatest.Line(vars, 4))
				checkSets(t, forall(), d, v, 4, dfatest.Constant(vars, false))
			}
		}
	}
}

// The start state need not be state 0, and unreachable states do not matter.
func TestStartStates(t *testing.T) {
	d := api.DFA{Vars: 2, Start: 3, Next: [][]int{{0, 0, 0, 0}, {0, 1, 2, 3}, {0, 0, 0, 0}, {0, 2, 2, 0}}, Final: []bool{false, true, true, false}}
	for _, q := range quantifiers() {
		checkSets(t, q, d, 0, 3, q.model(exactly(), 0).DFA)
		checkSets(t, q, d, 1, 3, q.model(exactly(), 1).DFA)
	}
	checkIgnores(t, d, 0, false, api.OK)
	checkDrop(t, d, 0, api.DFA{}, api.ErrVars)
	checkInsert(t, d, 1, insertedOf(exactly(), 1), api.OK)
	checkRename(t, d, []int{1, 0}, dfatest.Minimized(exactly()), api.OK)
	// From state 4 on the variable 0 is ignored, but not from state 1 on.
	d = api.DFA{Vars: 2, Start: 4, Next: append(d.Next, []int{0, 0, 2, 2}), Final: []bool{false, true, true, false, false}}
	short := api.DFA{Vars: 1, Next: [][]int{{1, 2}, {1, 1}, {1, 1}}, Final: []bool{false, false, true}}
	checkIgnores(t, d, 0, true, api.OK)
	checkIgnores(t, d, 1, false, api.OK)
	checkDrop(t, d, 0, short, api.OK)
	checkDrop(t, d, 1, api.DFA{}, api.ErrVars)
}

// With as many steps as there are states, each set of them with state 0 is reached.
func TestGreatestNumbersOfSets(t *testing.T) {
	for _, vars := range []int{2, 6} {
		for _, steps := range []int{1, 5, 11, 12} {
			v, a := 0, vars-1
			if steps%2 == 1 {
				v, a = a, v
			}
			d := guess(vars, v, a, steps)
			want := dfatest.Recent(vars, a, steps)
			checkSets(t, exists(), d, v, 1<<steps, want)
			checkSets(t, forall(), complementOf(d), v, 1<<steps, complementOf(want))
		}
		for _, steps := range []int{13, 100, 4095} {
			d := guess(vars, 1, 0, steps)
			for _, budget := range []int{1, 100, 4096} {
				checkQuantifier(t, exists(), d, 1, budget, api.DFA{}, api.ErrBudget)
				checkQuantifier(t, forall(), complementOf(d), 1, budget, api.DFA{}, api.ErrBudget)
			}
		}
	}
}

// Exists takes the automaton as it is given, Forall the minimal one.
func TestWhichSetsCount(t *testing.T) {
	for _, vars := range []int{1, 6} {
		v := vars - 1
		for _, states := range []int{2, 300, 4096} {
			all := dfatest.Cycle(vars, states, 1)
			checkSets(t, exists(), all, v, states, dfatest.Constant(vars, true))
			checkSets(t, forall(), all, v, 1, dfatest.Constant(vars, true))
			even := dfatest.Cycle(vars, states, 2)
			checkSets(t, exists(), even, v, states, dfatest.Cycle(vars, 2, 2))
			checkSets(t, forall(), even, v, 2, dfatest.Cycle(vars, 2, 2))
			stay := dfatest.Shaped(vars, states, func(s, x int) int { return s }, func(s int) bool { return s > 0 })
			stay.Start = states - 1
			checkSets(t, exists(), stay, v, 1, dfatest.Constant(vars, true))
			checkSets(t, forall(), stay, v, 1, dfatest.Constant(vars, true))
			stay.Start = 0
			checkSets(t, exists(), stay, v, 1, dfatest.Constant(vars, false))
			checkSets(t, forall(), stay, v, 1, dfatest.Constant(vars, false))
		}
	}
	redundant := 0
	for _, s := range samples() {
		if small := dfatest.Minimized(s.d); existsOf(small, s.v).sets < existsOf(s.d, s.v).sets {
			redundant++
		}
	}
	if redundant < 50 {
		t.Errorf("only for %d samples the given automaton has more sets than the minimal one", redundant)
	}
}

// Automata and sets of greatest size.
func TestQuantifiersOfGreatestAutomata(t *testing.T) {
	for _, vars := range []int{2, 6} {
		d := dfatest.Recent(vars, 1, 12)
		checkSets(t, exists(), d, 0, 4096, d)
		checkSets(t, forall(), d, 0, 4096, d)
		checkSets(t, exists(), d, 1, 13, dfatest.Line(vars, 13))
		checkSets(t, forall(), d, 1, 13, dfatest.Constant(vars, false))
		line := dfatest.Line(vars, 4096)
		checkSets(t, exists(), line, vars-1, 4096, line)
		checkSets(t, forall(), line, vars-1, 4096, line)
	}
}

// P11.2

func TestIgnores(t *testing.T) {
	ignoring, hidden := 0, 0
	for _, s := range samples() {
		for v := range s.d.Vars {
			is := ignoredBy(s.d, v)
			checkIgnores(t, s.d, v, is, api.OK)
			if is {
				ignoring++
			}
			if is && leadsElsewhere(s.d, v) {
				hidden++
			}
		}
	}
	if ignoring < 150 || hidden < 50 {
		t.Errorf("%d variables are ignored, %d of them although the automaton looks at them", ignoring, hidden)
	}
}

// leadsElsewhere reports whether some letter leads to another state if its bit v changes.
func leadsElsewhere(d api.DFA, v int) bool {
	for _, row := range d.Next {
		for x, to := range row {
			if row[x^1<<v] != to {
				return true
			}
		}
	}
	return false
}

func TestWordsOfIgnores(t *testing.T) {
	for _, s := range samples() {
		is := ignoredBy(s.d, s.v)
		different := false
		for _, w := range s.words {
			if len(w) > 12 {
				continue
			}
			for _, u := range variantsOf(w, s.v) {
				different = different || accepts(s.d, u) != accepts(s.d, w)
			}
		}
		if is && different {
			t.Errorf("%v ignores %d, but there are variants that differ", s.d, s.v)
		}
	}
}

func TestDrop(t *testing.T) {
	dropped, refused := 0, 0
	for _, s := range samples() {
		for v := range s.d.Vars {
			if !ignoredBy(s.d, v) {
				checkDrop(t, s.d, v, api.DFA{}, api.ErrVars)
				refused++
				continue
			}
			want := droppedOf(s.d, v)
			checkDrop(t, s.d, v, want, api.OK)
			if len(want.Next) > 1 {
				dropped++
			}
		}
	}
	if dropped < 80 || refused < 200 {
		t.Errorf("%d interesting automata without a variable, %d errors", dropped, refused)
	}
}

func TestWordsOfDrop(t *testing.T) {
	for _, s := range samples() {
		if !ignoredBy(s.d, s.v) {
			continue
		}
		m, e := project.Drop(s.d, s.v)
		for _, w := range s.words {
			short := each(w, func(x uint8) uint8 { return without(x, s.d.Vars, s.v) })
			if is, f := subset.Accepts(m, short); e != api.OK || f != api.OK || is != accepts(s.d, w) {
				t.Errorf("without %d, %v accepts %d: %t, %d, %d", s.v, s.d, short, is, e, f)
			}
		}
	}
}

func TestInsert(t *testing.T) {
	for _, s := range samples() {
		for v := range s.d.Vars + 1 {
			if s.d.Vars == api.MaxVars {
				checkInsert(t, s.d, v, api.DFA{}, api.ErrVars)
				continue
			}
			checkInsert(t, s.d, v, insertedOf(s.d, v), api.OK)
		}
	}
}

func TestWordsOfInsert(t *testing.T) {
	draw := dfatest.Choice(112)
	for _, s := range samples() {
		for v := range s.d.Vars + 1 {
			if s.d.Vars == api.MaxVars {
				continue
			}
			m, e := project.Insert(s.d, v)
			for range 20 {
				w := draw.Word(draw.Below(12), s.d.Vars+1)
				short := each(w, func(x uint8) uint8 { return without(x, s.d.Vars+1, v) })
				if is, f := subset.Accepts(m, w); e != api.OK || f != api.OK || is != accepts(s.d, short) {
					t.Errorf("with %d, %v accepts %d: %t, %d, %d", v, s.d, w, is, e, f)
				}
			}
		}
	}
}

func TestInsertAndDropOfExamples(t *testing.T) {
	one := api.DFA{Vars: 1, Next: [][]int{{1, 2}, {1, 1}, {1, 1}}, Final: []bool{false, false, true}}
	above := api.DFA{Vars: 2, Next: [][]int{{1, 1, 2, 2}, {1, 1, 1, 1}, {1, 1, 1, 1}}, Final: []bool{false, false, true}}
	below := api.DFA{Vars: 2, Next: [][]int{{1, 2, 1, 2}, {1, 1, 1, 1}, {1, 1, 1, 1}}, Final: []bool{false, false, true}}
	checkInsert(t, one, 0, above, api.OK)
	checkInsert(t, one, 1, below, api.OK)
	for v, d := range []api.DFA{above, below} {
		checkIgnores(t, d, v, true, api.OK)
		checkIgnores(t, d, 1-v, false, api.OK)
		checkDrop(t, d, v, one, api.OK)
		checkDrop(t, d, 1-v, api.DFA{}, api.ErrVars)
	}
	for v := range 2 {
		checkIgnores(t, exactly(), v, false, api.OK)
		checkDrop(t, exactly(), v, api.DFA{}, api.ErrVars)
	}
	middle := api.DFA{Vars: 3, Next: [][]int{{1, 2, 1, 2, 2, 1, 2, 1}, {1, 1, 1, 1, 1, 1, 1, 1}, {1, 1, 1, 1, 1, 1, 1, 1}}, Final: []bool{false, false, true}}
	checkInsert(t, exactly(), 1, middle, api.OK)
	checkDrop(t, middle, 1, dfatest.Minimized(exactly()), api.OK)
}

// Each number of variables from 0 to 6, with the automata that accept all words or none.
func TestInsertAndDropOfConstants(t *testing.T) {
	for vars := range 6 {
		for _, is := range []bool{false, true} {
			small, large := dfatest.Constant(vars, is), dfatest.Constant(vars+1, is)
			for v := range vars + 1 {
				checkInsert(t, small, v, large, api.OK)
				checkIgnores(t, large, v, true, api.OK)
				checkDrop(t, large, v, small, api.OK)
			}
		}
	}
}

// Results are minimal even if the automaton is not, and only reachable states of the minimal one count.
func TestInsertAndDropMinimize(t *testing.T) {
	for _, v := range []int{0, 1, 2} {
		d := dfatest.Cycle(2, 4096, 64)
		checkInsert(t, d, v, dfatest.Cycle(3, 64, 64), api.OK)
		checkDrop(t, dfatest.Cycle(3, 4096, 64), v, dfatest.Cycle(2, 64, 64), api.OK)
		checkIgnores(t, dfatest.Cycle(3, 4096, 64), v, true, api.OK)
	}
	checkRename(t, dfatest.Cycle(3, 4096, 64), []int{2, 0, 1}, dfatest.Cycle(3, 64, 64), api.OK)
}

// Automata of up to 4096 states.
func TestInsertAndDropOfLargeAutomata(t *testing.T) {
	for vars := 1; vars < 6; vars++ {
		for a := range vars {
			digits := 12 - 2*((vars+a)%3)
			d := dfatest.Recent(vars, a, digits)
			for v := range vars + 1 {
				place := a
				if v <= a {
					place++
				}
				large := dfatest.Recent(vars+1, place, digits)
				checkInsert(t, d, v, large, api.OK)
				checkDrop(t, large, v, d, api.OK)
				checkIgnores(t, large, place, false, api.OK)
				checkDrop(t, large, place, api.DFA{}, api.ErrVars)
			}
		}
	}
}

// P11.3

func TestRename(t *testing.T) {
	draw := dfatest.Choice(113)
	other := 0
	for _, s := range samples() {
		for _, perm := range renamings(&draw, s.d.Vars) {
			want := renamedOf(s.d, perm)
			checkRename(t, s.d, perm, want, api.OK)
			if !dfatest.Same(want, dfatest.Minimized(s.d)) {
				other++
			}
		}
	}
	if other < 500 {
		t.Errorf("only %d renamings change the language", other)
	}
}

func TestWordsOfRename(t *testing.T) {
	draw := dfatest.Choice(114)
	for _, s := range samples() {
		for _, perm := range renamings(&draw, s.d.Vars) {
			m, e := project.Rename(s.d, perm...)
			for _, w := range s.words {
				u := each(w, func(x uint8) uint8 { return moved(x, perm) })
				if is, f := subset.Accepts(m, u); e != api.OK || f != api.OK || is != accepts(s.d, w) {
					t.Errorf("renamed by %d, %v accepts %d: %t, %d, %d", perm, s.d, u, is, e, f)
				}
			}
		}
	}
}

func TestRenameOfExamples(t *testing.T) {
	checkRename(t, exactly(), []int{1, 0}, dfatest.Minimized(exactly()), api.OK)
	checkRename(t, exactly(), []int{0, 1}, dfatest.Minimized(exactly()), api.OK)
	// The word that consists of letter 1 becomes letter 4, 2 becomes 1, and 4 becomes 2.
	for k, x := range []uint8{4, 1, 2} {
		d := dfatest.Shaped(3, 3, func(s, y int) int {
			if s == 0 && y == 1<<k {
				return 1
			}
			return 2
		}, func(s int) bool { return s == 1 })
		want := dfatest.Minimized(dfatest.Shaped(3, 3, func(s, y int) int {
			if s == 0 && y == int(x) {
				return 1
			}
			return 2
		}, func(s int) bool { return s == 1 }))
		checkRename(t, d, []int{2, 0, 1}, want, api.OK)
	}
	for vars := range 7 {
		var perm []int
		for k := range vars {
			perm = append(perm, vars-1-k)
		}
		for _, is := range []bool{false, true} {
			checkRename(t, dfatest.Constant(vars, is), perm, dfatest.Constant(vars, is), api.OK)
		}
		for k := range vars {
			checkRename(t, dfatest.Recent(vars, k, 12), perm, dfatest.Recent(vars, vars-1-k, 12), api.OK)
		}
	}
}

func TestErrorsOfRename(t *testing.T) {
	for _, perm := range [][]int{
		nil, {0}, {1}, {0, 1, 2}, {0, 0}, {1, 1}, {0, 2}, {2, 0}, {-1, 0}, {0, -1}, {2, 2}, {0, 0, 1}, {0, 1, 0}, {1, 2},
		{math.MinInt, 0}, {0, math.MaxInt}, {64, 0}, {1, 65}, make([]int, 1000),
	} {
		checkRename(t, exactly(), perm, api.DFA{}, api.ErrVars)
	}
	none := dfatest.Constant(0, true)
	checkRename(t, none, nil, none, api.OK)
	checkRename(t, none, []int{}, none, api.OK)
	checkRename(t, none, []int{0}, api.DFA{}, api.ErrVars)
	checkRename(t, dfatest.Constant(6, true), []int{0, 1, 2, 3, 4, 6}, api.DFA{}, api.ErrVars)
	checkRename(t, dfatest.Constant(6, true), []int{1, 2, 3, 4, 5, 1}, api.DFA{}, api.ErrVars)
	checkRename(t, dfatest.Constant(6, true), []int{0, 1, 2, 3, 4, 5, 6}, api.DFA{}, api.ErrVars)
}

// Errors of the variable and of the budget

func TestErrorsOfVariables(t *testing.T) {
	for vars := range 7 {
		for _, d := range []api.DFA{dfatest.Constant(vars, true), dfatest.Line(vars, 5)} {
			for _, v := range []int{math.MinInt, -64, -1, vars, vars + 1, 63, 64, math.MaxInt} {
				checkNoVariable(t, d, v, api.ErrVars)
				if v != vars {
					checkInsert(t, d, v, api.DFA{}, api.ErrVars)
				}
			}
			for v := range vars {
				checkIgnores(t, d, v, true, api.OK)
			}
		}
	}
	for v := range 7 {
		checkInsert(t, dfatest.Constant(6, true), v, api.DFA{}, api.ErrVars)
	}
}

func TestErrorsOfBudgets(t *testing.T) {
	for _, q := range quantifiers() {
		for v := range 2 {
			for _, budget := range []int{math.MinInt, -4096, -1, 0, 4097, math.MaxInt} {
				checkQuantifier(t, q, exactly(), v, budget, api.DFA{}, api.ErrArg)
				checkQuantifier(t, q, dfatest.Constant(2, true), v, budget, api.DFA{}, api.ErrArg)
			}
			for _, budget := range []int{1, 2} {
				checkQuantifier(t, q, exactly(), v, budget, api.DFA{}, api.ErrBudget)
			}
		}
	}
}
