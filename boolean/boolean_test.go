package boolean_test

import (
	"math"
	"testing"

	"sentinel/api"
	"sentinel/boolean"
	"sentinel/internal/dfatest"
	"sentinel/minimal"
	"sentinel/subset"
)

// accepts reports whether an automaton accepts a word.
func accepts(d api.DFA, w []uint8) bool {
	return d.Final[dfatest.EndOf(d, d.Start, w)]
}

// P9.1

func TestOperations(t *testing.T) {
	empty, all, smaller := 0, 0, 0
	for _, s := range samples() {
		for _, o := range operations() {
			product := productOf(o, s.a, s.b)
			want := dfatest.Minimized(product)
			checkCombined(t, o, s.a, s.b, want, api.OK)
			switch {
			case dfatest.Same(want, dfatest.Constant(s.a.Vars, false)):
				empty++
			case dfatest.Same(want, dfatest.Constant(s.a.Vars, true)):
				all++
			case len(want.Next) < len(product.Next):
				smaller++
			}
		}
	}
	if empty < 100 || all < 20 || smaller < 200 {
		t.Errorf("%d results accept no word, %d all words, and %d others are smaller than the product", empty, all, smaller)
	}
}

func TestNot(t *testing.T) {
	for _, s := range samples() {
		checkNot(t, s.a, complementOf(s.a), api.OK)
		checkNot(t, s.b, complementOf(s.b), api.OK)
	}
}

func TestWordsOfOperations(t *testing.T) {
	for _, s := range samples() {
		for _, o := range operations() {
			m, e := o.combine(s.a, s.b)
			for _, w := range s.words {
				is, f := subset.Accepts(m, w)
				if want := o.of(accepts(s.a, w), accepts(s.b, w)); e != api.OK || f != api.OK || is != want {
					t.Errorf("%s(%v, %v) accepts %d: %t, %d, %d, want %t", o.name, s.a, s.b, w, is, e, f, want)
				}
			}
		}
		m, e := boolean.Not(s.a)
		for _, w := range s.words {
			if is, f := subset.Accepts(m, w); e != api.OK || f != api.OK || is == accepts(s.a, w) {
				t.Errorf("%v and its complement agree on %d, %d, %d", s.a, w, e, f)
			}
		}
	}
}

func TestOperationsOfExamples(t *testing.T) {
	rest := api.DFA{Vars: 1, Next: [][]int{{1, 2}, {3, 3}, {2, 2}, {1, 1}}, Final: []bool{true, false, false, true}} // even without one
	for i, want := range []api.DFA{
		{Vars: 1, Next: [][]int{{1, 2}, {1, 1}, {3, 3}, {2, 2}}, Final: []bool{false, false, false, true}},
		{Vars: 1, Next: [][]int{{1, 2}, {3, 3}, {2, 2}, {1, 1}}, Final: []bool{true, false, true, true}},
		{Vars: 1, Next: [][]int{{1, 2}, {2, 2}, {1, 1}}, Final: []bool{true, false, true}},
		{Vars: 1, Next: [][]int{{1, 2}, {1, 1}, {3, 3}, {2, 2}}, Final: []bool{false, false, true, false}},
	} {
		checkCombined(t, operations()[i], one(), even(), want, api.OK)
		checkCombined(t, operations()[i], even(), one(), []api.DFA{want, want, want, rest}[i], api.OK)
	}
	checkNot(t, one(), api.DFA{Vars: 1, Next: [][]int{{1, 2}, {1, 1}, {2, 2}}, Final: []bool{true, true, false}}, api.OK)
	checkNot(t, even(), api.DFA{Vars: 1, Next: [][]int{{1, 1}, {0, 0}}, Final: []bool{false, true}}, api.OK)
	for vars := range 7 {
		checkNot(t, dfatest.Constant(vars, true), dfatest.Constant(vars, false), api.OK)
		checkNot(t, dfatest.Constant(vars, false), dfatest.Constant(vars, true), api.OK)
		for _, o := range operations() {
			checkCombined(t, o, dfatest.Constant(vars, true), dfatest.Constant(vars, false), dfatest.Constant(vars, o.of(true, false)), api.OK)
		}
	}
}

// The start states need not be state 0, and unreachable states do not matter.
func TestStartStates(t *testing.T) {
	a := api.DFA{Vars: 1, Start: 2, Next: [][]int{{0, 0}, {1, 1}, {1, 0}}, Final: []bool{true, false, false}}
	b := api.DFA{Vars: 1, Start: 1, Next: [][]int{{1, 1}, {0, 0}, {2, 1}}, Final: []bool{false, true, true}}
	for _, o := range operations() {
		checkCombined(t, o, a, b, combinedOf(o, one(), even()), api.OK)
	}
	checkEqual(t, a, one(), true, api.OK)
	checkEqual(t, even(), b, true, api.OK)
	checkIncluded(t, a, b, dfatest.Distinction{Word: []uint8{1}, Is: true}, api.OK)
	checkAll(t, 1, []api.DFA{b, a}, combinedOf(and(), one(), even()), api.OK)
}

// P9.2

func TestIncluded(t *testing.T) {
	included, long := 0, 0
	for _, s := range samples() {
		for _, x := range [][2]api.DFA{{s.a, s.b}, {s.b, s.a}} {
			missing := missingOf(x[0], x[1])
			checkIncluded(t, x[0], x[1], missing, api.OK)
			included += index(!missing.Is)
			long += index(len(missing.Word) > 4)
		}
	}
	if included < 200 || long < 50 {
		t.Errorf("%d automata are included in another one, and %d others accept only long words more", included, long)
	}
}

func TestEqual(t *testing.T) {
	equal := 0
	for _, s := range samples() {
		is := dfatest.Same(dfatest.Minimized(s.a), dfatest.Minimized(s.b))
		checkEqual(t, s.a, s.b, is, api.OK)
		checkEqual(t, s.a, s.a, true, api.OK)
		equal += index(is)
	}
	if all := len(samples()); equal < 60 || equal > all/2 {
		t.Errorf("%d of %d pairs of automata are equal", equal, all)
	}
}

func TestIncludedOfExamples(t *testing.T) {
	by := func(w ...uint8) dfatest.Distinction { return dfatest.Distinction{Word: w, Is: true} }
	none := dfatest.Distinction{}
	checkIncluded(t, one(), even(), by(1), api.OK)
	checkIncluded(t, even(), one(), by(), api.OK)
	checkIncluded(t, one(), one(), none, api.OK)
	for vars := range 7 {
		checkIncluded(t, dfatest.Constant(vars, false), dfatest.Constant(vars, true), none, api.OK)
		checkIncluded(t, dfatest.Constant(vars, true), dfatest.Constant(vars, false), by(), api.OK)
	}
	// The shortest word is smaller than the first one letter by letter: 3 before 0 3, and 2 before 3.
	a := api.DFA{Vars: 2, Next: [][]int{{1, 1, 2, 2}, {1, 1, 1, 2}, {2, 2, 2, 2}}, Final: []bool{false, false, true}}
	checkIncluded(t, a, dfatest.Constant(2, false), by(2), api.OK)
	a.Next[0][2] = 1
	checkIncluded(t, a, dfatest.Constant(2, false), by(3), api.OK)
	a.Next[0][3] = 0
	checkIncluded(t, a, dfatest.Constant(2, false), by(0, 3), api.OK)
}

func TestEqualOfExamples(t *testing.T) {
	m, _ := boolean.Not(one())
	m, _ = boolean.Not(m)
	checkEqual(t, one(), m, true, api.OK)
	checkEqual(t, one(), even(), false, api.OK)
	checkEqual(t, dfatest.Constant(6, true), dfatest.Constant(6, true), true, api.OK)
	checkEqual(t, dfatest.Constant(6, true), dfatest.Constant(6, false), false, api.OK)
	checkEqual(t, dfatest.Constant(6, false), dfatest.Constant(6, true), false, api.OK)
}

// P9.3

func TestAll(t *testing.T) {
	draw := dfatest.Choice(92)
	nonempty := 0
	for range 400 {
		vars := draw.Below(4)
		var l []api.DFA
		for range draw.Below(5) {
			d := draw.Automaton(vars, 1+draw.Below(5))
			for s := range d.Final {
				d.Final[s] = d.Final[s] || draw.Below(3) > 0
			}
			l = append(l, d)
		}
		want := allOf(vars, l)
		checkAll(t, vars, l, want, api.OK)
		nonempty += index(len(l) > 1 && len(want.Next) > 1)
	}
	if nonempty < 80 {
		t.Errorf("only %d intersections are interesting", nonempty)
	}
}

func TestAllOfExamples(t *testing.T) {
	for vars := range 7 {
		checkAll(t, vars, nil, dfatest.Constant(vars, true), api.OK)
		checkAll(t, vars, []api.DFA{}, dfatest.Constant(vars, true), api.OK)
		checkAll(t, vars, []api.DFA{dfatest.Constant(vars, true), dfatest.Constant(vars, false)}, dfatest.Constant(vars, false), api.OK)
	}
	both := combinedOf(and(), one(), even())
	checkAll(t, 1, []api.DFA{one()}, api.DFA{Vars: 1, Next: [][]int{{1, 2}, {1, 1}, {2, 2}}, Final: []bool{false, false, true}}, api.OK)
	checkAll(t, 1, []api.DFA{one(), even()}, both, api.OK)
	checkAll(t, 1, []api.DFA{even(), one(), even(), one()}, both, api.OK)
	checkAll(t, 1, []api.DFA{even(), complementOf(even())}, dfatest.Constant(1, false), api.OK)
}

func TestErrorsOfAll(t *testing.T) {
	for _, vars := range []int{math.MinInt, -1, 7, 64, math.MaxInt} {
		for _, l := range [][]api.DFA{nil, {one()}, {{}}, {{Vars: vars, Next: [][]int{{0}}, Final: []bool{true}}}} {
			checkAll(t, vars, l, api.DFA{}, api.ErrVars)
		}
	}
	short, over2 := api.DFA{}, dfatest.Constant(2, true)
	state := api.DFA{Vars: 1, Start: 1, Next: [][]int{{0, 0}}, Final: []bool{true}}
	for _, x := range []struct {
		l    []api.DFA
		want api.Errno
	}{
		{[]api.DFA{over2}, api.ErrVars},
		{[]api.DFA{one(), even(), over2}, api.ErrVars},
		{[]api.DFA{one(), short}, api.ErrShort},
		{[]api.DFA{short, state, over2}, api.ErrShort},
		{[]api.DFA{one(), state, short, over2}, api.ErrState},
		{[]api.DFA{over2, short}, api.ErrVars},
		{[]api.DFA{one(), over2, state}, api.ErrVars},
		{[]api.DFA{dfatest.Constant(1, false), short}, api.ErrShort},
		{[]api.DFA{dfatest.Constant(1, false), dfatest.Constant(0, false)}, api.ErrVars},
		{[]api.DFA{dfatest.Cycle(1, 17, 17), dfatest.Cycle(1, 241, 241), short, over2}, api.ErrBudget},
		{[]api.DFA{dfatest.Cycle(1, 17, 17), state, dfatest.Cycle(1, 241, 241)}, api.ErrState},
		{[]api.DFA{dfatest.Cycle(1, 17, 17), over2, dfatest.Cycle(1, 241, 241)}, api.ErrVars},
	} {
		checkAll(t, 1, x.l, api.DFA{}, x.want)
	}
}

// The intersection is minimal before the next automaton comes, which is taken as it is given.
func TestAllMinimizesOnTheWay(t *testing.T) {
	never := dfatest.Cycle(0, 17, 18)
	long := dfatest.Cycle(0, 241, 241)
	checkFault(t, never, long, api.ErrBudget)
	checkAll(t, 0, []api.DFA{never, long}, dfatest.Constant(0, false), api.OK)
	checkAll(t, 0, []api.DFA{long, never}, api.DFA{}, api.ErrBudget)
	checkAll(t, 0, []api.DFA{long, dfatest.Cycle(0, 17, 1)}, api.DFA{}, api.ErrBudget)
	checkAll(t, 0, []api.DFA{dfatest.Cycle(0, 17, 1), long}, long, api.OK)
	checkAll(t, 0, []api.DFA{dfatest.Cycle(0, 64, 2), dfatest.Cycle(0, 4096, 4096)}, dfatest.Cycle(0, 4096, 4096), api.OK)
}

// The number of reachable pairs

// minimized returns the minimal automaton, computed by the layer below.
func minimized(t *testing.T, d api.DFA) api.DFA {
	t.Helper()
	m, e := minimal.Minimize(d)
	if e != api.OK {
		t.Fatalf("Minimize(%v) returned the error %d", d, e)
	}
	return m
}

func TestProductsOfCycles(t *testing.T) {
	for _, x := range []struct{ vars, p, q, pairs int }{
		{0, 1, 1, 1}, {0, 1, 4096, 4096}, {0, 4096, 2, 4096}, {0, 300, 300, 300}, {0, 4095, 5, 4095},
		{0, 63, 65, 4095}, {0, 65, 63, 4095}, {2, 60, 84, 420}, {6, 1, 1, 1}, {6, 60, 84, 420},
	} {
		a, b := dfatest.Cycle(x.vars, x.p, x.p), dfatest.Cycle(x.vars, x.q, x.q)
		next := func(s, _ int) int { return (s + 1) % x.pairs }
		for _, o := range operations() {
			d := dfatest.Shaped(x.vars, x.pairs, next, func(s int) bool { return o.of(s%x.p == x.p-1, s%x.q == x.q-1) })
			checkCombined(t, o, a, b, minimized(t, d), api.OK)
		}
		var missing dfatest.Distinction
		if x.p%x.q != 0 {
			missing = dfatest.Distinction{Word: make([]uint8, x.p-1), Is: true}
		}
		checkIncluded(t, a, b, missing, api.OK)
		checkEqual(t, a, b, x.p == x.q, api.OK)
	}
}

// 17 times 241 is 4097.
func TestProductsOverBudget(t *testing.T) {
	for _, x := range [][2]int{{17, 241}, {4096, 3}, {64, 65}, {2049, 4096}, {4095, 4096}, {1260, 1170}} {
		for _, vars := range []int{0, 2, 6} {
			a, b := dfatest.Cycle(vars, x[0], x[0]), dfatest.Cycle(vars, x[1], x[1])
			checkFault(t, a, b, api.ErrBudget)
			checkFault(t, b, a, api.ErrBudget)
		}
	}
}

// The budget counts pairs, not the states of the result; they are counted even if it is known without them.
func TestBudgetCountsPairs(t *testing.T) {
	for _, vars := range []int{0, 6} {
		a, b := dfatest.Cycle(vars, 17, 18), dfatest.Cycle(vars, 241, 242)
		checkFault(t, a, b, api.ErrBudget)
		checkFault(t, b, a, api.ErrBudget)
		checkFault(t, dfatest.Cycle(vars, 17, 1), b, api.ErrBudget)
		b = dfatest.Cycle(vars, 240, 241)
		for _, o := range operations() {
			checkCombined(t, o, a, b, dfatest.Constant(vars, false), api.OK)
		}
		checkIncluded(t, a, b, dfatest.Distinction{}, api.OK)
		checkEqual(t, a, b, true, api.OK)
		checkEqual(t, dfatest.Cycle(vars, 17, 1), dfatest.Cycle(vars, 240, 1), true, api.OK)
	}
}

// Pairs that cannot be reached do not count: here all states of both automata but the start states.
func TestUnreachablePairsDoNotCount(t *testing.T) {
	stay := func(s, _ int) int { return s }
	a := dfatest.Shaped(3, 4096, stay, func(s int) bool { return s == 4095 })
	b := dfatest.Shaped(3, 4095, stay, func(s int) bool { return s == 0 })
	a.Start = 4095
	for _, o := range operations() {
		checkCombined(t, o, a, b, dfatest.Constant(3, o.of(true, true)), api.OK)
	}
	checkEqual(t, a, b, true, api.OK)
	b.Start = 4094
	checkIncluded(t, a, b, dfatest.Distinction{Is: true}, api.OK)
	checkIncluded(t, b, a, dfatest.Distinction{}, api.OK)
}

// With two variables all pairs of states are reached, in an order that depends on the letters.
func TestProductsOverTwoVariables(t *testing.T) {
	for _, vars := range []int{2, 6} {
		a, b := dfatest.Recent(vars, 0, 6), dfatest.Recent(vars, vars-1, 6)
		for _, o := range operations() {
			d := dfatest.Shaped(vars, 64, func(s, x int) int {
				return (2*s + index(o.of(x%2 == 1, x>>(vars-1)%2 == 1))) % 64
			}, func(s int) bool { return s >= 32 })
			if o.of(false, false) {
				t.Fatalf("%s accepts the words of less than six letters", o.name)
			}
			checkCombined(t, o, a, b, minimized(t, d), api.OK)
		}
		checkIncluded(t, a, b, dfatest.Distinction{Word: []uint8{1, 0, 0, 0, 0, 0}, Is: true}, api.OK)
		checkIncluded(t, b, a, dfatest.Distinction{Word: []uint8{1 << (vars - 1), 0, 0, 0, 0, 0}, Is: true}, api.OK)
		checkFault(t, a, dfatest.Recent(vars, vars-1, 7), api.ErrBudget)
	}
}

// The smallest words have any length below the number of pairs.
func TestLongestWords(t *testing.T) {
	for _, vars := range []int{0, 6} {
		d := dfatest.Line(vars, 4096)
		nothing := dfatest.Constant(vars, false)
		checkIncluded(t, d, nothing, dfatest.Distinction{Word: make([]uint8, 4095), Is: true}, api.OK)
		checkIncluded(t, nothing, d, dfatest.Distinction{}, api.OK)
		checkIncluded(t, dfatest.Line(vars, 66), d, dfatest.Distinction{Word: make([]uint8, 65), Is: true}, api.OK)
		checkEqual(t, d, nothing, false, api.OK)
		checkEqual(t, d, d, true, api.OK)
		checkCombined(t, and(), d, dfatest.Line(vars, 4000), d, api.OK)
		checkFault(t, d, dfatest.Line(vars, 4097), api.ErrLong)
	}
	// Only the letter 5 leads on.
	next := func(s, x int) int { return min(s+index(x == 5), 4095) }
	d := dfatest.Shaped(3, 4096, next, func(s int) bool { return s == 4095 })
	fives := make([]uint8, 4095)
	for i := range fives {
		fives[i] = 5
	}
	checkIncluded(t, d, dfatest.Constant(3, false), dfatest.Distinction{Word: fives, Is: true}, api.OK)
}
