package nfa_test

import (
	"math"
	"slices"
	"testing"

	"sentinel/api"
	"sentinel/bitset"
	"sentinel/nfa"
)

// P6.1

func TestCheck(t *testing.T) {
	edge := api.Edge{From: 0, To: 1}
	for _, x := range []struct {
		name string
		n    api.NFA
		want api.Errno
	}{
		{"the zero value", api.NFA{}, api.OK},
		{"the example", second(), api.OK},
		{"six variables", api.NFA{Vars: 6, States: 1, Edges: []api.Edge{{Pos: 63}, {Neg: 63}}}, api.OK},
		{"seven variables", api.NFA{Vars: 7}, api.ErrVars},
		{"-1 variables", api.NFA{Vars: -1, States: -1}, api.ErrVars},
		{"many variables", api.NFA{Vars: math.MaxInt}, api.ErrVars},
		{"-1 states", api.NFA{States: -1}, api.ErrArg},
		{"fewest states", api.NFA{States: math.MinInt, Start: []int{0}}, api.ErrArg},
		{"64 states", api.NFA{States: 64, Start: []int{63}, Final: []int{0, 63}, Edges: []api.Edge{{From: 63, To: 63}}}, api.OK},
		{"65 states", api.NFA{States: 65}, api.ErrLong},
		{"most states", api.NFA{States: math.MaxInt, Start: []int{5, 5}}, api.ErrLong},
		{"512 edges", api.NFA{States: 2, Edges: slices.Repeat([]api.Edge{edge}, 512)}, api.OK},
		{"513 edges", api.NFA{States: 2, Edges: slices.Repeat([]api.Edge{edge}, 513)}, api.ErrLong},
		{"513 edges without states", api.NFA{Edges: make([]api.Edge, 513)}, api.ErrLong},
		{"an edge without states", api.NFA{Edges: make([]api.Edge, 1)}, api.ErrState},
		{"a start state without states", api.NFA{Start: []int{0}}, api.ErrState},
		{"a final state without states", api.NFA{Final: []int{0}}, api.ErrState},
		{"all states in both lists", api.NFA{States: 3, Start: []int{0, 1, 2}, Final: []int{0, 1, 2}}, api.OK},
		{"a negative start state", api.NFA{States: 3, Start: []int{-1}}, api.ErrState},
		{"a start state too many", api.NFA{States: 3, Start: []int{0, 3}}, api.ErrState},
		{"a start state twice", api.NFA{States: 3, Start: []int{1, 1}}, api.ErrState},
		{"descending start states", api.NFA{States: 3, Start: []int{0, 2, 1}}, api.ErrState},
		{"a negative final state", api.NFA{States: 3, Final: []int{math.MinInt, 0}}, api.ErrState},
		{"a final state too many", api.NFA{States: 3, Final: []int{3}}, api.ErrState},
		{"a final state twice", api.NFA{States: 3, Final: []int{0, 2, 2}}, api.ErrState},
		{"descending final states", api.NFA{States: 3, Final: []int{1, 0}}, api.ErrState},
		{"an edge to nowhere", api.NFA{States: 3, Edges: []api.Edge{edge, {From: 0, To: 3}}}, api.ErrState},
		{"an edge from nowhere", api.NFA{States: 3, Edges: []api.Edge{edge, {From: -1, To: 0}}}, api.ErrState},
		{"an edge with a missing variable", api.NFA{Vars: 1, States: 3, Edges: []api.Edge{edge, {Pos: 2, Neg: 2}}}, api.ErrVars},
		{"an edge with a missing negated variable", api.NFA{Vars: 6, States: 3, Edges: []api.Edge{{Neg: 64}}}, api.ErrVars},
		{"an edge with contradictory literals", api.NFA{Vars: 2, States: 3, Edges: []api.Edge{edge, {Pos: 3, Neg: 2}}}, api.ErrForm},
		{"the first of two invalid edges", api.NFA{Vars: 1, States: 1, Edges: []api.Edge{{Pos: 1, Neg: 1}, {To: 1}}}, api.ErrForm},
		{"the state before the cube", api.NFA{Vars: 1, States: 1, Edges: []api.Edge{{To: 1, Pos: 4}, {Pos: 4}}}, api.ErrState},
	} {
		if e := nfa.Check(x.n); e != x.want {
			t.Errorf("%s: Check = %d, want %d", x.name, e, x.want)
		}
	}
}

func TestCheckOfSamples(t *testing.T) {
	for _, s := range samples() {
		if e := nfa.Check(s.NFA); e != api.OK {
			t.Errorf("Check(%v) = %d", s.NFA, e)
		}
	}
}

func TestCheckOfSmallAutomata(t *testing.T) {
	lists := [][]int{nil, {0}, {1}, {0, 1}, {1, 0}, {1, 1}, {-1}}
	var edges [][]api.Edge
	for _, k := range []int{-1, 0, 1} {
		for bits := range uint8(16) {
			edges = append(edges, []api.Edge{{From: k, Pos: bits / 4, Neg: bits % 4}, {To: k}})
			edges = append(edges, []api.Edge{{To: k, Pos: bits % 4, Neg: bits / 4}, {Pos: 1, Neg: 1}})
		}
	}
	edges = append(edges, nil)
	for vars := -1; vars <= 2; vars++ {
		for states := -1; states <= 2; states++ {
			for _, start := range lists {
				for _, final := range lists {
					for _, l := range edges {
						n := api.NFA{Vars: vars, States: states, Start: start, Final: final, Edges: l}
						if e, want := nfa.Check(n), errorOf(n); e != want {
							t.Errorf("Check(%v) = %d, want %d", n, e, want)
						}
					}
				}
			}
		}
	}
}

func TestAfter(t *testing.T) {
	draw := choice(61)
	for _, s := range samples() {
		for range 4 {
			from := draw.states(s.States, 1+draw.below(5))
			x := draw.word(1, s.Vars)
			r, e := nfa.After(s.NFA, bitset.Of(from...), x[0])
			checkSet(t, "After", s.NFA, r, e, endsOf(s.NFA, rowOf(from), x))
		}
	}
}

func TestAfterOfExamples(t *testing.T) {
	all := api.Set{^uint64(0), ^uint64(0)}
	long := append(make(api.Set, 70), 1)
	for _, x := range []struct {
		s      api.Set
		letter uint8
		want   api.Set
		e      api.Errno
	}{
		{bitset.Of(1, 2), 0, api.Set{4}, api.OK},
		{bitset.Of(0), 0, api.Set{1}, api.OK},
		{bitset.Of(0), 1, api.Set{3}, api.OK},
		{bitset.Of(2), 1, nil, api.OK},
		{nil, 1, nil, api.OK},
		{api.Set{}, 1, nil, api.OK},
		{api.Set{0, 0, 0}, 1, nil, api.OK},
		{api.Set{2, 0, 0}, 1, api.Set{4}, api.OK},
		{bitset.Of(3, 63, 64, 65, 4095), 1, nil, api.OK},
		{all, 1, api.Set{7}, api.OK},
		{long, 1, nil, api.OK},
		{bitset.Of(0), 2, nil, api.ErrArg},
		{nil, 255, nil, api.ErrArg},
	} {
		if s, e := nfa.After(second(), x.s, x.letter); e != x.e || !slices.Equal(s, x.want) {
			t.Errorf("After(%x, %d) = %x, %d, want %x, %d", x.s, x.letter, s, e, x.want, x.e)
		}
	}
}

func TestLettersOfTheAlphabet(t *testing.T) {
	for vars := range 7 {
		n := api.NFA{Vars: vars, States: 1, Start: []int{0}, Final: []int{0}, Edges: []api.Edge{{}}}
		for x := range 256 {
			want, accepted := api.ErrArg, false
			if x < 1<<vars {
				want, accepted = api.OK, true
			}
			s, e := nfa.After(n, api.Set{1}, uint8(x))
			if e != want || bitset.Has(s, 0) != accepted {
				t.Errorf("over %d variables After(%d) = %x, %d", vars, x, s, e)
			}
			is, e := nfa.Accepts(n, []uint8{uint8(x)})
			if e != want || is != accepted {
				t.Errorf("over %d variables Accepts(%d) = %t, %d", vars, x, is, e)
			}
		}
	}
}

func TestRunAndAccepts(t *testing.T) {
	accepted, all := 0, 0
	for _, s := range samples() {
		for _, w := range s.words {
			want := accepts(s.NFA, w)
			checkRun(t, s.NFA, w, endsOf(s.NFA, rowOf(s.Start), w), want)
			all++
			if want {
				accepted++
			}
		}
	}
	if accepted < all/5 || accepted > all-all/5 {
		t.Errorf("%d of %d words are accepted", accepted, all)
	}
}

func TestRunAndAcceptsOfExamples(t *testing.T) {
	for _, x := range []struct {
		w        []uint8
		run      []int
		accepted bool
	}{
		{nil, []int{0}, false},
		{[]uint8{1}, []int{0, 1}, false},
		{[]uint8{1, 0}, []int{0, 2}, true},
		{[]uint8{1, 1}, []int{0, 1, 2}, true},
		{[]uint8{0, 1}, []int{0, 1}, false},
		{[]uint8{0, 1, 1}, []int{0, 1, 2}, true},
		{[]uint8{1, 0, 0}, []int{0}, false},
		{append(make([]uint8, 62), 1, 0), []int{0, 2}, true},
	} {
		checkRun(t, second(), x.w, rowOf(x.run), x.accepted)
	}
	start := api.NFA{States: 2, Start: []int{0, 1}, Final: []int{1}}
	checkRun(t, start, nil, rowOf([]int{0, 1}), true)
	checkRun(t, start, []uint8{0}, row{}, false)
	checkRun(t, api.NFA{}, nil, row{}, false)
	checkRun(t, api.NFA{}, []uint8{0, 0}, row{}, false)
	checkRun(t, chain(), make([]uint8, 63), rowOf([]int{0}), true)
	checkRun(t, chain(), make([]uint8, 64), row{}, false)
}

// P6.2

func TestReachableProductiveAndTrim(t *testing.T) {
	useless, trimmed := 0, 0
	for _, s := range samples() {
		reachable, productive := usesOf(s.NFA)
		r, e := nfa.Reachable(s.NFA)
		checkSet(t, "Reachable", s.NFA, r, e, reachable)
		p, e := nfa.Productive(s.NFA)
		checkSet(t, "Productive", s.NFA, p, e, productive)
		want := trimmedOf(s.NFA)
		n, e := nfa.Trim(s.NFA)
		checkAutomaton(t, "Trim", n, e, want)
		if want.States == 0 {
			useless++
		} else if want.States < s.States && len(want.Edges) > 0 {
			trimmed++
		}
	}
	if useless < 10 || trimmed < 100 {
		t.Errorf("%d automata have no useful states, %d some", useless, trimmed)
	}
}

func TestReachableAndProductiveOfExamples(t *testing.T) {
	loop := func(from, to int) api.Edge { return api.Edge{From: from, To: to} }
	for _, x := range []struct {
		name                  string
		n                     api.NFA
		reachable, productive []int
	}{
		{"no states", api.NFA{}, nil, nil},
		{"no start states", api.NFA{States: 2, Final: []int{1}, Edges: []api.Edge{loop(0, 1)}}, nil, []int{0, 1}},
		{"no final states", api.NFA{States: 2, Start: []int{0}, Edges: []api.Edge{loop(0, 1)}}, []int{0, 1}, nil},
		{"no edges", api.NFA{States: 3, Start: []int{0, 2}, Final: []int{1, 2}}, []int{0, 2}, []int{1, 2}},
		{"a cycle", api.NFA{States: 3, Start: []int{1}, Final: []int{0}, Edges: []api.Edge{loop(2, 0), loop(0, 1), loop(1, 2)}}, []int{0, 1, 2}, []int{0, 1, 2}},
		{"the one way and the other", api.NFA{States: 4, Start: []int{1}, Final: []int{2}, Edges: []api.Edge{loop(1, 0), loop(3, 2)}}, []int{0, 1}, []int{2, 3}},
		{"a narrow cube", api.NFA{Vars: 6, States: 2, Start: []int{0}, Final: []int{1}, Edges: []api.Edge{{To: 1, Pos: 21, Neg: 42}}}, []int{0, 1}, []int{0, 1}},
	} {
		r, e := nfa.Reachable(x.n)
		checkSet(t, x.name+": Reachable", x.n, r, e, rowOf(x.reachable))
		p, e := nfa.Productive(x.n)
		checkSet(t, x.name+": Productive", x.n, p, e, rowOf(x.productive))
	}
}

func TestTrimOfExamples(t *testing.T) {
	n, e := nfa.Trim(second())
	checkAutomaton(t, "the example", n, e, second())
	n, e = nfa.Trim(api.NFA{Vars: 3, States: 2, Start: []int{0}, Final: []int{1}, Edges: []api.Edge{{To: 0}}})
	checkAutomaton(t, "one without words", n, e, api.NFA{Vars: 3})
	n, e = nfa.Trim(api.NFA{
		Vars: 1, States: 7, Start: []int{1, 2, 5}, Final: []int{0, 3, 5, 6},
		Edges: []api.Edge{
			{From: 5, To: 3, Pos: 1}, {From: 0, To: 3}, {From: 2, To: 4}, {From: 2, To: 5},
			{From: 5, To: 3, Pos: 1}, {From: 3, To: 2, Neg: 1}, {From: 5, To: 4}, {From: 6, To: 6},
		},
	})
	checkAutomaton(t, "one with all kinds of states", n, e, api.NFA{
		Vars: 1, States: 3, Start: []int{0, 2}, Final: []int{1, 2},
		Edges: []api.Edge{
			{From: 2, To: 1, Pos: 1}, {From: 0, To: 2}, {From: 2, To: 1, Pos: 1}, {From: 1, To: 0, Neg: 1},
		},
	})
}

// P6.3

func TestReverse(t *testing.T) {
	for _, s := range samples() {
		want := api.NFA{Vars: s.Vars, States: s.States, Start: s.Final, Final: s.Start}
		for _, x := range s.Edges {
			want.Edges = append(want.Edges, api.Edge{From: x.To, To: x.From, Pos: x.Pos, Neg: x.Neg})
		}
		n, e := nfa.Reverse(s.NFA)
		checkAutomaton(t, "Reverse", n, e, want)
	}
	n, e := nfa.Reverse(second())
	checkAutomaton(t, "Reverse of the example", n, e, api.NFA{
		Vars: 1, States: 3, Start: []int{2}, Final: []int{0},
		Edges: []api.Edge{{From: 0, To: 0}, {From: 1, To: 0, Pos: 1}, {From: 2, To: 1}},
	})
}

// unionOf returns the automaton with the states of a followed by those of b.
func unionOf(a, b api.NFA) api.NFA {
	u := copied(a)
	u.States += b.States
	for _, s := range b.Start {
		u.Start = append(u.Start, a.States+s)
	}
	for _, s := range b.Final {
		u.Final = append(u.Final, a.States+s)
	}
	for _, x := range b.Edges {
		x.From += a.States
		x.To += a.States
		u.Edges = append(u.Edges, x)
	}
	return u
}

func TestUnion(t *testing.T) {
	unions := 0
	l := samples()
	for i, a := range l {
		for _, b := range []sample{a, l[(i+1)%len(l)], l[(5*i+3)%len(l)]} {
			n, e := nfa.Union(a.NFA, b.NFA)
			switch {
			case a.Vars != b.Vars:
				checkNone(t, "no union", n, e, api.ErrVars)
			case a.States+b.States > 64 || len(a.Edges)+len(b.Edges) > 512:
				checkNone(t, "too long a union", n, e, api.ErrLong)
			default:
				checkAutomaton(t, "Union", n, e, unionOf(a.NFA, b.NFA))
				unions++
			}
		}
	}
	if unions < 500 {
		t.Errorf("there are only %d unions", unions)
	}
}

func TestUnionOfExamples(t *testing.T) {
	n, e := nfa.Union(second(), second())
	checkAutomaton(t, "Union of the example with itself", n, e, api.NFA{
		Vars: 1, States: 6, Start: []int{0, 3}, Final: []int{2, 5},
		Edges: []api.Edge{
			{From: 0, To: 0}, {From: 0, To: 1, Pos: 1}, {From: 1, To: 2},
			{From: 3, To: 3}, {From: 3, To: 4, Pos: 1}, {From: 4, To: 5},
		},
	})
	n, e = nfa.Union(second(), api.NFA{Vars: 1})
	checkAutomaton(t, "Union with no states", n, e, second())
	n, e = nfa.Union(api.NFA{Vars: 1}, second())
	checkAutomaton(t, "Union of no states", n, e, second())
	n, e = nfa.Union(api.NFA{}, api.NFA{})
	checkAutomaton(t, "Union without states", n, e, api.NFA{})
}

func TestSizeOfUnions(t *testing.T) {
	edges := make([]api.Edge, 512)
	for _, x := range []struct {
		a, b api.NFA
		want api.Errno
	}{
		{api.NFA{States: 32}, api.NFA{States: 32}, api.OK},
		{api.NFA{States: 64}, api.NFA{}, api.OK},
		{api.NFA{}, api.NFA{States: 64}, api.OK},
		{api.NFA{States: 64}, api.NFA{States: 1}, api.ErrLong},
		{api.NFA{States: 33}, api.NFA{States: 32}, api.ErrLong},
		{api.NFA{States: 1, Edges: edges[:256]}, api.NFA{States: 1, Edges: edges[:256]}, api.OK},
		{api.NFA{States: 1, Edges: edges}, api.NFA{States: 1}, api.OK},
		{api.NFA{States: 1, Edges: edges}, api.NFA{States: 1, Edges: edges[:1]}, api.ErrLong},
		{api.NFA{States: 1, Edges: edges[:256]}, api.NFA{States: 1, Edges: edges[:257]}, api.ErrLong},
	} {
		n, e := nfa.Union(x.a, x.b)
		if x.want == api.OK {
			checkAutomaton(t, "Union", n, e, unionOf(x.a, x.b))
		} else {
			checkNone(t, "Union", n, e, x.want)
		}
	}
}

func TestErrorsOfUnions(t *testing.T) {
	wrong := []api.NFA{
		{Vars: 7}, {States: -1}, {States: 65}, {Start: []int{0}}, {Final: []int{0}}, {Edges: []api.Edge{{}}},
		{States: 1, Edges: []api.Edge{{Pos: 1}}}, {Vars: 1, States: 1, Edges: []api.Edge{{Pos: 1, Neg: 1}}},
	}
	for _, a := range wrong {
		for _, right := range []api.NFA{second(), {States: 64}, {Vars: 6}} {
			n, e := nfa.Union(a, right)
			checkNone(t, "Union with a first invalid automaton", n, e, errorOf(a))
			n, e = nfa.Union(right, a)
			checkNone(t, "Union with a second invalid automaton", n, e, errorOf(a))
		}
		for _, b := range wrong {
			n, e := nfa.Union(a, b)
			checkNone(t, "Union of two invalid automata", n, e, errorOf(a))
		}
	}
	n, e := nfa.Union(api.NFA{Vars: 1, States: 64}, api.NFA{Vars: 2, States: 64})
	checkNone(t, "Union over different variables", n, e, api.ErrVars)
}
