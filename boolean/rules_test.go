package boolean_test

import (
	"slices"
	"testing"

	"sentinel/api"
	"sentinel/boolean"
	"sentinel/internal/dfatest"
)

// R1 and R2: no function panics, the errors come in their order, and with an error there is no result.
func TestErrorsOfAnyAutomata(t *testing.T) {
	draw := dfatest.Choice(94)
	counts := map[api.Errno]int{}
	for range 20000 {
		a, b := draw.Wild(), draw.Wild()
		if draw.Below(3) > 0 {
			b = draw.Changed(dfatest.Constant(draw.Below(3), true))
		}
		if e := dfatest.ErrorOf(a); e != api.OK {
			checkNot(t, a, api.DFA{}, e)
		} else {
			checkNot(t, a, complementOf(a), api.OK)
		}
		fault := faultOf(a, b)
		counts[fault]++
		if fault != api.OK {
			checkFault(t, a, b, fault)
			continue
		}
		for _, o := range operations() {
			checkCombined(t, o, a, b, combinedOf(o, a, b), api.OK)
		}
		checkIncluded(t, a, b, missingOf(a, b), api.OK)
		checkEqual(t, a, b, dfatest.Same(dfatest.Minimized(a), dfatest.Minimized(b)), api.OK)
	}
	for _, e := range []api.Errno{api.OK, api.ErrForm, api.ErrShort, api.ErrVars, api.ErrState} {
		if counts[e] < 500 {
			t.Errorf("only %d pairs of automata have the error %d", counts[e], e)
		}
	}
}

// R2: the first automaton is checked before the second one, both before their variables, and these before the product.
func TestOrderOfErrors(t *testing.T) {
	over1, over2 := dfatest.Constant(1, true), dfatest.Constant(2, true)
	for _, a := range dfatest.Faulties() {
		if e := dfatest.ErrorOf(a.DFA); e != a.Fault {
			t.Errorf("the model has the error %d for %v, want %d", e, a.DFA, a.Fault)
		}
		checkNot(t, a.DFA, api.DFA{}, a.Fault)
		for _, b := range []api.DFA{over1, over2} {
			checkFault(t, a.DFA, b, a.Fault)
			checkFault(t, b, a.DFA, a.Fault)
			checkAll(t, b.Vars, []api.DFA{b, a.DFA}, api.DFA{}, a.Fault)
		}
		for _, b := range dfatest.Faulties() {
			checkFault(t, a.DFA, b.DFA, a.Fault)
		}
	}
	checkFault(t, over1, over2, api.ErrVars)
	checkFault(t, over2, over1, api.ErrVars)
	checkFault(t, dfatest.Cycle(1, 17, 17), dfatest.Cycle(2, 241, 241), api.ErrVars)
	checkFault(t, dfatest.Constant(0, true), dfatest.Constant(6, true), api.ErrVars)
}

// R1: nil and empty slices are equivalent.
func TestNilIsEmpty(t *testing.T) {
	for _, rows := range [][][]int{nil, {}} {
		for _, final := range [][]bool{nil, {}} {
			d := api.DFA{Next: rows, Final: final}
			checkNot(t, d, api.DFA{}, api.ErrShort)
			checkFault(t, d, d, api.ErrShort)
			checkFault(t, dfatest.Constant(0, true), d, api.ErrShort)
			checkAll(t, 0, []api.DFA{d}, api.DFA{}, api.ErrShort)
		}
	}
}

// R3: arguments are not changed, and what is beyond their length is not read.
func TestArgumentsAreLeft(t *testing.T) {
	for _, s := range some(5) {
		a, b := dfatest.Padded(s.a), dfatest.Padded(s.b)
		wholeA, wholeB := dfatest.Whole(a), dfatest.Whole(b)
		checkNot(t, a, complementOf(s.a), api.OK)
		for _, o := range operations() {
			checkCombined(t, o, a, b, combinedOf(o, s.a, s.b), api.OK)
		}
		checkIncluded(t, a, b, missingOf(s.a, s.b), api.OK)
		checkEqual(t, a, b, dfatest.Same(dfatest.Minimized(s.a), dfatest.Minimized(s.b)), api.OK)
		l := []api.DFA{a, b, {}}
		checkAll(t, s.a.Vars, l[:2], combinedOf(and(), s.a, s.b), api.OK)
		if !dfatest.Same(dfatest.Whole(a), wholeA) || !dfatest.Same(dfatest.Whole(b), wholeB) {
			t.Errorf("the arguments %v and %v have become %v and %v", wholeA, wholeB, a, b)
		}
		if !dfatest.Same(l[0], a) || !dfatest.Same(l[1], b) || !dfatest.Same(l[2], api.DFA{}) {
			t.Errorf("the list of arguments has become %v", l)
		}
	}
}

// functions returns all functions that return an automaton, for two automata.
func functions() []func(a, b api.DFA) (api.DFA, api.Errno) {
	l := []func(a, b api.DFA) (api.DFA, api.Errno){
		func(a, _ api.DFA) (api.DFA, api.Errno) { return boolean.Not(a) },
		func(a, _ api.DFA) (api.DFA, api.Errno) { return boolean.All(a.Vars) },
		func(a, _ api.DFA) (api.DFA, api.Errno) { return boolean.All(a.Vars, a) },
		func(a, b api.DFA) (api.DFA, api.Errno) { return boolean.All(a.Vars, a, b) },
	}
	for _, o := range operations() {
		l = append(l, o.combine)
	}
	return l
}

// R3: results share no memory with arguments, with other results, or within themselves.
func TestResultsShareNoMemory(t *testing.T) {
	for _, s := range some(4) {
		for i, f := range functions() {
			a, b := dfatest.Copied(s.a), dfatest.Copied(s.b)
			first, _ := f(a, b)
			second, _ := f(a, b)
			want := dfatest.Copied(first)
			if !dfatest.Apart(first.Next) {
				t.Errorf("function %d: rows of the result for %v and %v share memory", i, s.a, s.b)
			}
			dfatest.Overwrite(first.Final, !want.Final[0])
			dfatest.Overwrite(first.Next, nil)
			if !dfatest.Same(a, s.a) || !dfatest.Same(b, s.b) || !dfatest.Same(second, want) {
				t.Errorf("function %d: changing the result changes the arguments %v and %v or another result", i, s.a, s.b)
			}
			for _, row := range slices.Concat(a.Next, b.Next) {
				dfatest.Overwrite(row, -7)
			}
			dfatest.Overwrite(a.Final, !a.Final[0])
			dfatest.Overwrite(b.Final, !b.Final[0])
			if !dfatest.Same(second, want) {
				t.Errorf("function %d: changing the arguments changes the result %v to %v", i, want, second)
			}
		}
	}
}

// R3: the same for words.
func TestWordsShareNoMemory(t *testing.T) {
	for _, s := range some(2) {
		w, _, _ := boolean.Included(s.a, s.b)
		dfatest.Overwrite(w, 255)
		checkIncluded(t, s.a, s.b, missingOf(s.a, s.b), api.OK)
	}
}

// An automaton may be combined with itself, and its rows may be one and the same.
func TestOneAutomatonTwice(t *testing.T) {
	for _, s := range some(4) {
		d := dfatest.Copied(s.a)
		for k := range d.Next {
			d.Next[k] = d.Next[0]
		}
		for _, o := range operations() {
			checkCombined(t, o, d, d, combinedOf(o, d, d), api.OK)
		}
		checkIncluded(t, d, d, dfatest.Distinction{}, api.OK)
		checkEqual(t, d, d, true, api.OK)
	}
}

// P1: calls at the same time do not influence each other.
func TestParallelCalls(t *testing.T) {
	work := some(12)
	done := make(chan bool)
	for k := range 4 {
		go func() {
			ok := true
			for i := range work {
				s := work[(i*7+k*20)%len(work)]
				for _, o := range operations() {
					m, e := o.combine(s.a, s.b)
					ok = ok && e == api.OK && dfatest.Same(m, combinedOf(o, s.a, s.b))
				}
				w, is, e := boolean.Included(s.a, s.b)
				want := missingOf(s.a, s.b)
				ok = ok && e == api.OK && is != want.Is && slices.Equal(w, want.Word)
			}
			done <- ok
		}()
	}
	for range 4 {
		if !<-done {
			t.Error("a call in parallel has another result")
		}
	}
}
