package project_test

import (
	"math"
	"slices"
	"testing"

	"sentinel/api"
	"sentinel/internal/dfatest"
	"sentinel/project"
)

// The models of this file are written without the packages of the layers.

// bitsOf returns the bits of a letter, one for each variable.
func bitsOf(x uint8, vars int) []bool {
	l := make([]bool, vars)
	for k := range l {
		l[k] = x>>k%2 == 1
	}
	return l
}

// letterOf returns the letter with the given bits.
func letterOf(bits []bool) uint8 {
	x := uint8(0)
	for k, is := range bits {
		if is {
			x += 1 << k
		}
	}
	return x
}

// without returns a letter over vars variables without bit v.
func without(x uint8, vars, v int) uint8 {
	return letterOf(slices.Delete(bitsOf(x, vars), v, v+1))
}

// moved returns the letter to which a renaming maps x.
func moved(x uint8, perm []int) uint8 {
	l := make([]bool, len(perm))
	for k, is := range bitsOf(x, len(perm)) {
		l[perm[k]] = is
	}
	return letterOf(l)
}

// each returns a word with another letter for each of its letters.
func each(w []uint8, change func(x uint8) uint8) []uint8 {
	var l []uint8
	for _, x := range w {
		l = append(l, change(x))
	}
	return l
}

// variantsOf returns the v-variants of a word.
func variantsOf(w []uint8, v int) [][]uint8 {
	l := [][]uint8{nil}
	for _, x := range w {
		var longer [][]uint8
		for _, u := range l {
			longer = append(longer, append(slices.Clone(u), x), append(slices.Clone(u), x^1<<v))
		}
		l = longer
	}
	return l
}

// accepts reports whether an automaton accepts a word.
func accepts(d api.DFA, w []uint8) bool {
	return d.Final[dfatest.EndOf(d, d.Start, w)]
}

// relabeled returns the minimal automaton over vars variables whose letter x leads where the first of the letters y of d
// leads that become x.
func relabeled(d api.DFA, vars int, becomes func(y, x uint8) bool) api.DFA {
	r := api.DFA{Vars: vars, Start: d.Start, Final: d.Final}
	for _, before := range d.Next {
		var row []int
		for x := range 1 << vars {
			y := 0
			for !becomes(uint8(y), uint8(x)) {
				y++
			}
			row = append(row, before[y])
		}
		r.Next = append(r.Next, row)
	}
	return dfatest.Minimized(r)
}

// droppedOf returns the minimal automaton of the words without bit v, which d must ignore.
func droppedOf(d api.DFA, v int) api.DFA {
	return relabeled(d, d.Vars-1, func(y, x uint8) bool { return without(y, d.Vars, v) == x })
}

// insertedOf returns the minimal automaton of the words that d accepts without bit v.
func insertedOf(d api.DFA, v int) api.DFA {
	return relabeled(d, d.Vars+1, func(y, x uint8) bool { return y == without(x, d.Vars+1, v) })
}

// renamedOf returns the minimal automaton of the words to which a renaming maps those that d accepts.
func renamedOf(d api.DFA, perm []int) api.DFA {
	return relabeled(d, d.Vars, func(y, x uint8) bool { return moved(y, perm) == x })
}

// quantified is the minimal automaton of a quantifier with the number of sets that lead to it.
type quantified struct {
	api.DFA
	sets int
}

// quantifiedOf returns the automaton of the words whose v-variants lead to final sets of states.
func quantifiedOf(d api.DFA, v int, final func(ends []bool) bool) quantified {
	next := func(set uint64, x uint8) uint64 {
		to := uint64(0)
		for s, row := range d.Next {
			for y, k := range row {
				if set>>s%2 == 1 && (y == int(x) || y == int(x^1<<v)) {
					to |= 1 << k
				}
			}
		}
		return to
	}
	l := dfatest.ByFirstVisit(uint64(1)<<d.Start, 1<<d.Vars, math.MaxInt, next)
	sets := dfatest.Numbered(d.Vars, l, next, func(set uint64) bool {
		var ends []bool
		for s, is := range d.Final {
			if set>>s%2 == 1 {
				ends = append(ends, is)
			}
		}
		return final(ends)
	})
	return quantified{dfatest.Minimized(sets), len(l)}
}

// existsOf is the model of Exists.
func existsOf(d api.DFA, v int) quantified {
	return quantifiedOf(d, v, func(ends []bool) bool { return slices.Contains(ends, true) })
}

// forallOf is the model of Forall. The minimal automaton has the same states as the one of its complement.
func forallOf(d api.DFA, v int) quantified {
	return quantifiedOf(dfatest.Minimized(d), v, func(ends []bool) bool { return !slices.Contains(ends, false) })
}

// ignoredBy reports whether the language of d ignores v.
func ignoredBy(d api.DFA, v int) bool {
	return dfatest.Same(existsOf(d, v).DFA, forallOf(d, v).DFA)
}

// quantifier is one of the two quantifiers.
type quantifier struct {
	name  string
	of    func(d api.DFA, v, budget int) (api.DFA, api.Errno)
	model func(d api.DFA, v int) quantified
}

// exists and forall are the quantifiers.
func exists() quantifier { return quantifier{"Exists", project.Exists, existsOf} }
func forall() quantifier { return quantifier{"Forall", project.Forall, forallOf} }

// quantifiers returns both quantifiers.
func quantifiers() []quantifier {
	return []quantifier{exists(), forall()}
}

// exactly returns the automaton of the words 1 and 2 over two variables.
func exactly() api.DFA {
	return api.DFA{Vars: 2, Next: [][]int{{2, 1, 1, 2}, {2, 2, 2, 2}, {2, 2, 2, 2}}, Final: []bool{false, true, false}}
}

// complementOf returns an automaton that accepts the words that d does not accept.
func complementOf(d api.DFA) api.DFA {
	d = dfatest.Copied(d)
	for s, is := range d.Final {
		d.Final[s] = !is
	}
	return d
}

// guess returns an automaton of words whose last letters, as many as there are steps, begin with one that contains the variables
// v and a: with such a letter it leaves state 0, and does not come back for that many letters.
func guess(vars, v, a, steps int) api.DFA {
	return dfatest.Shaped(vars, steps+1, func(s, x int) int {
		if s == 0 {
			return x >> v & (x >> a) & 1
		}
		return (s + 1) % (steps + 1)
	}, func(s int) bool { return s == steps })
}

// sample is a valid automaton with one of its variables, and words.
type sample struct {
	d     api.DFA
	v     int
	words [][]uint8
}

// sparse returns an automaton that accepts few words: most letters lead to its last state, which accepts nothing.
func sparse(draw *dfatest.Choice, vars, states int) api.DFA {
	return dfatest.Shaped(vars, states, func(s, x int) int {
		if s == states-1 || draw.Below(4) == 0 {
			return states - 1
		}
		return draw.Below(states)
	}, func(s int) bool { return s < states-1 && draw.Below(2) == 0 })
}

// samples returns automata that ignore one of their variables, that do not, and that almost do.
func samples() []sample {
	draw := dfatest.Choice(111)
	var l []sample
	add := func(d api.DFA, v int) {
		l = append(l, sample{d, v, draw.Words(d.Vars)})
		l = append(l, sample{complementOf(d), v, draw.Words(d.Vars)})
	}
	add(exactly(), 0)
	add(exactly(), 1)
	for range 60 {
		vars := 1 + draw.Below(3)
		add(draw.Automaton(vars, 1+draw.Below(6)), draw.Below(vars))
		add(sparse(&draw, vars, 2+draw.Below(5)), draw.Below(vars))
	}
	for range 25 {
		vars := 1 + draw.Below(6)
		add(draw.Automaton(vars, 1+draw.Below(4)), draw.Below(vars))
		add(sparse(&draw, vars, 2+draw.Below(4)), draw.Below(vars))
	}
	for range 50 {
		vars := 1 + draw.Below(3)
		v := draw.Below(vars)
		d := insertedOf(draw.Automaton(vars-1, 1+draw.Below(5)), v)
		add(draw.Enlarged(d, draw.Below(5)), v)
		add(draw.Enlarged(draw.Changed(d), draw.Below(3)), v)
	}
	for steps := range 5 {
		add(guess(2, steps%2, 1-steps%2, steps+1), steps%2)
		add(guess(3, steps%3, (steps+1)%3, 3), (steps+draw.Below(2))%3)
	}
	return l
}

// some returns one of each so many samples.
func some(every int) []sample {
	return dfatest.Some(samples(), every)
}

// renamings returns all renamings for few variables, or some for more of them.
func renamings(draw *dfatest.Choice, vars int) [][]int {
	l := [][]int{nil}
	for k := range vars {
		var longer [][]int
		for _, perm := range l {
			for i := range len(perm) + 1 {
				longer = append(longer, slices.Insert(slices.Clone(perm), i, k))
			}
		}
		for len(longer) > 6 {
			i := draw.Below(len(longer))
			longer = slices.Delete(longer, i, i+1)
		}
		l = longer
	}
	return l
}

// checkQuantifier checks a quantifier; with an error it must return nothing else.
func checkQuantifier(t *testing.T, q quantifier, d api.DFA, v, budget int, want api.DFA, fault api.Errno) {
	t.Helper()
	if m, e := q.of(d, v, budget); e != fault || !dfatest.Same(m, want) {
		t.Errorf("%s(%v, %d, %d) = %v, %d, want %v, %d", q.name, d, v, budget, m, e, want, fault)
	}
}

// checkSets checks a quantifier with the least budgets with which it returns an automaton and an error.
func checkSets(t *testing.T, q quantifier, d api.DFA, v, sets int, want api.DFA) {
	t.Helper()
	checkQuantifier(t, q, d, v, sets, want, api.OK)
	if sets > 1 {
		checkQuantifier(t, q, d, v, sets-1, api.DFA{}, api.ErrBudget)
	}
}

// checkIgnores checks Ignores; with an error it must return false.
func checkIgnores(t *testing.T, d api.DFA, v int, want bool, fault api.Errno) {
	t.Helper()
	if is, e := project.Ignores(d, v); e != fault || is != want {
		t.Errorf("Ignores(%v, %d) = %t, %d, want %t, %d", d, v, is, e, want, fault)
	}
}

// checkDrop checks Drop; with an error it must return nothing else.
func checkDrop(t *testing.T, d api.DFA, v int, want api.DFA, fault api.Errno) {
	t.Helper()
	if m, e := project.Drop(d, v); e != fault || !dfatest.Same(m, want) {
		t.Errorf("Drop(%v, %d) = %v, %d, want %v, %d", d, v, m, e, want, fault)
	}
}

// checkInsert checks Insert; with an error it must return nothing else.
func checkInsert(t *testing.T, d api.DFA, v int, want api.DFA, fault api.Errno) {
	t.Helper()
	if m, e := project.Insert(d, v); e != fault || !dfatest.Same(m, want) {
		t.Errorf("Insert(%v, %d) = %v, %d, want %v, %d", d, v, m, e, want, fault)
	}
}

// checkRename checks Rename; with an error it must return nothing else.
func checkRename(t *testing.T, d api.DFA, perm []int, want api.DFA, fault api.Errno) {
	t.Helper()
	if m, e := project.Rename(d, perm...); e != fault || !dfatest.Same(m, want) {
		t.Errorf("Rename(%v, %d) = %v, %d, want %v, %d", d, perm, m, e, want, fault)
	}
}

// checkNoVariable checks that the functions with a variable of the automaton return an error and nothing else.
func checkNoVariable(t *testing.T, d api.DFA, v int, fault api.Errno) {
	t.Helper()
	for _, q := range quantifiers() {
		for _, budget := range []int{math.MinInt, -1, 0, 1, 4096, 4097} {
			checkQuantifier(t, q, d, v, budget, api.DFA{}, fault)
		}
	}
	checkIgnores(t, d, v, false, fault)
	checkDrop(t, d, v, api.DFA{}, fault)
}
