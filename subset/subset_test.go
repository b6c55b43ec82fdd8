package subset_test

import (
	"math"
	"slices"
	"testing"

	"sentinel/api"
	"sentinel/internal/dfatest"
	"sentinel/subset"
)

// line returns an automaton without variables in which each state leads to the one after it, and the last to itself.
func line(states int) api.DFA {
	d := api.DFA{Final: make([]bool, states)}
	for s := range states {
		d.Next = append(d.Next, []int{min(s+1, states-1)})
	}
	return d
}

// flat returns an automaton in which all letters lead to state 0.
func flat(vars, states int) api.DFA {
	d := api.DFA{Vars: vars, Final: make([]bool, states)}
	for range states {
		d.Next = append(d.Next, make([]int, 1<<vars))
	}
	return d
}

// P7.1

func TestCheck(t *testing.T) {
	two := [][]int{{0, 1}, {1, 0}}
	none := []bool{false, false}
	for _, x := range []struct {
		name string
		d    api.DFA
		want api.Errno
	}{
		{"the zero value", api.DFA{}, api.ErrShort},
		{"two states", api.DFA{Vars: 1, Start: 1, Next: two, Final: none}, api.OK},
		{"six variables", flat(6, 3), api.OK},
		{"seven variables", flat(7, 3), api.ErrVars},
		{"-1 variables", api.DFA{Vars: -1}, api.ErrVars},
		{"fewest variables", api.DFA{Vars: math.MinInt, Next: two}, api.ErrVars},
		{"most variables", api.DFA{Vars: math.MaxInt, Next: two}, api.ErrVars},
		{"no rows", api.DFA{Vars: 1, Start: 5, Next: [][]int{}, Final: none}, api.ErrShort},
		{"4096 states", line(4096), api.OK},
		{"4097 states", line(4097), api.ErrLong},
		{"4097 rows without final states", api.DFA{Start: -1, Next: make([][]int, 4097)}, api.ErrLong},
		{"no final states", api.DFA{Vars: 1, Next: two}, api.ErrForm},
		{"a final state too few", api.DFA{Vars: 1, Start: 2, Next: two, Final: none[:1]}, api.ErrForm},
		{"a final state too many", api.DFA{Vars: 1, Next: two, Final: make([]bool, 3)}, api.ErrForm},
		{"a negative start state", api.DFA{Vars: 1, Start: -1, Next: two, Final: none}, api.ErrState},
		{"a start state too great", api.DFA{Vars: 1, Start: 2, Next: two, Final: none}, api.ErrState},
		{"a start state before a row", api.DFA{Start: 2, Next: two, Final: none}, api.ErrState},
		{"rows too long", api.DFA{Next: two, Final: none}, api.ErrForm},
		{"rows too short", api.DFA{Vars: 2, Next: two, Final: none}, api.ErrForm},
		{"an empty row", api.DFA{Vars: 1, Next: [][]int{{0, 1}, nil}, Final: none}, api.ErrForm},
		{"a negative state in a row", api.DFA{Vars: 1, Next: [][]int{{0, 1}, {0, -1}}, Final: none}, api.ErrState},
		{"a state too great in a row", api.DFA{Vars: 1, Next: [][]int{{2, 1}, {0, 1}}, Final: none}, api.ErrState},
		{"the greatest number in a row", api.DFA{Vars: 1, Next: [][]int{{0, math.MaxInt}, {0, 1}}, Final: none}, api.ErrState},
		{"a long row with no state", api.DFA{Vars: 1, Next: [][]int{{9, 9, 9}, {0, 1}}, Final: none}, api.ErrForm},
		{"a state before a short row", api.DFA{Vars: 1, Next: [][]int{{0, 2}, {0}}, Final: none}, api.ErrState},
		{"a short row before a state", api.DFA{Vars: 1, Next: [][]int{{0}, {0, 2}}, Final: none}, api.ErrForm},
	} {
		if e := subset.Check(x.d); e != x.want {
			t.Errorf("%s: Check = %d, want %d", x.name, e, x.want)
		}
	}
}

func TestRunAndAccepts(t *testing.T) {
	accepted, all := 0, 0
	for _, s := range deterministicSamples() {
		if e := subset.Check(s.DFA); e != api.OK {
			t.Fatalf("Check(%v) = %d", s.DFA, e)
		}
		for _, w := range s.words {
			k := dfatest.EndOf(s.DFA, s.Start, w)
			checkWord(t, s.DFA, w, k, s.Final[k])
			all++
			if s.Final[k] {
				accepted++
			}
		}
	}
	if accepted < all/5 || accepted > all-all/5 {
		t.Errorf("%d of %d words are accepted", accepted, all)
	}
}

func TestRunAndAcceptsOfExamples(t *testing.T) {
	d := api.DFA{Start: 2, Next: [][]int{{1}, {1}, {0}}, Final: []bool{true, false, false}}
	for k, state := range []int{2, 0, 1, 1} {
		checkWord(t, d, make([]uint8, k), state, state == 0)
	}
	long := line(4096)
	long.Start, long.Final[4095] = 4031, true
	checkWord(t, long, make([]uint8, 63), 4094, false)
	checkWord(t, long, make([]uint8, 64), 4095, true)
	checkNoWord(t, long, make([]uint8, 65), api.ErrLong)
}

func TestLettersOfTheAlphabet(t *testing.T) {
	for vars := range 7 {
		d := flat(vars, 65)
		d.Final[64] = true
		for x := range d.Next[0] {
			d.Next[0][x] = 64 - x
		}
		for x := range 256 {
			if x < 1<<vars {
				checkWord(t, d, []uint8{uint8(x)}, 64-x, x == 0)
			} else {
				checkNoWord(t, d, []uint8{uint8(x)}, api.ErrArg)
			}
		}
	}
}

// P7.2

func TestRenumber(t *testing.T) {
	smaller := 0
	for _, s := range deterministicSamples() {
		want := dfatest.Renumbered(s.DFA)
		checkRenumber(t, s.DFA, want, api.OK)
		if len(want.Next) < len(s.Next) {
			smaller++
		}
	}
	if smaller < 100 {
		t.Errorf("only %d automata have unreachable states", smaller)
	}
}

func TestRenumberOfExamples(t *testing.T) {
	checkRenumber(t,
		api.DFA{Start: 2, Next: [][]int{{1}, {1}, {0}}, Final: []bool{true, false, false}},
		api.DFA{Next: [][]int{{1}, {2}, {2}}, Final: []bool{false, true, false}}, api.OK)
	// State 2 is not reachable, and state 4 is reached by letter 0 before state 1 by letter 1.
	checkRenumber(t,
		api.DFA{Vars: 1, Start: 3, Next: [][]int{{3, 1}, {1, 0}, {0, 3}, {4, 1}, {3, 4}}, Final: []bool{false, true, true, false, false}},
		api.DFA{Vars: 1, Next: [][]int{{1, 2}, {0, 1}, {2, 3}, {0, 2}}, Final: []bool{false, false, true, false}}, api.OK)
	checkRenumber(t, line(4096), line(4096), api.OK)
	last := line(4096)
	last.Start, last.Final[4095] = 4095, true
	checkRenumber(t, last, api.DFA{Next: [][]int{{0}}, Final: []bool{true}}, api.OK)
}

// Numbering by first visit, without any search: the words in their order meet the states in theirs.
func TestFirstVisits(t *testing.T) {
	for _, s := range deterministicSamples() {
		if s.Vars == 0 || len(s.words) < 10 {
			continue
		}
		d, _ := subset.Renumber(s.DFA)
		met := 0
		for _, w := range s.words {
			k, e := subset.Run(d, w)
			if e != api.OK || k > met {
				t.Errorf("Run(%v, %d) = %d, %d, but only %d states have been met", d, w, k, e, met)
			}
			met = max(met, k+1)
		}
	}
}

func TestToNFA(t *testing.T) {
	converted := 0
	for _, s := range deterministicSamples() {
		if len(s.Next) > 64 || len(s.Next)<<s.Vars > 512 {
			checkToNFA(t, s.DFA, api.NFA{}, api.ErrLong)
			continue
		}
		checkToNFA(t, s.DFA, nondeterministicOf(s.DFA), api.OK)
		converted++
	}
	if converted < 300 {
		t.Errorf("only %d automata are small", converted)
	}
}

func TestToNFAOfExamples(t *testing.T) {
	checkToNFA(t,
		api.DFA{Start: 2, Next: [][]int{{1}, {1}, {0}}, Final: []bool{true, false, false}},
		api.NFA{States: 3, Start: []int{2}, Final: []int{0}, Edges: []api.Edge{{From: 0, To: 1}, {From: 1, To: 1}, {From: 2, To: 0}}}, api.OK)
	checkToNFA(t,
		api.DFA{Vars: 2, Next: [][]int{{1, 0, 0, 1}, {1, 1, 0, 0}}, Final: []bool{true, true}},
		api.NFA{Vars: 2, States: 2, Start: []int{0}, Final: []int{0, 1}, Edges: []api.Edge{
			{From: 0, To: 1, Neg: 3}, {From: 0, To: 0, Pos: 1, Neg: 2}, {From: 0, To: 0, Pos: 2, Neg: 1}, {From: 0, To: 1, Pos: 3},
			{From: 1, To: 1, Neg: 3}, {From: 1, To: 1, Pos: 1, Neg: 2}, {From: 1, To: 0, Pos: 2, Neg: 1}, {From: 1, To: 0, Pos: 3},
		}}, api.OK)
}

func TestSizeOfNFAs(t *testing.T) {
	for _, x := range []struct {
		vars, states int
		want         api.Errno
	}{
		{0, 64, api.OK}, {0, 65, api.ErrLong}, {0, 4096, api.ErrLong},
		{3, 64, api.OK}, {3, 65, api.ErrLong},
		{4, 32, api.OK}, {4, 33, api.ErrLong},
		{6, 8, api.OK}, {6, 9, api.ErrLong},
	} {
		d := flat(x.vars, x.states)
		if x.want == api.OK {
			checkToNFA(t, d, nondeterministicOf(d), api.OK)
		} else {
			checkToNFA(t, d, api.NFA{}, x.want)
		}
	}
}

// P7.3

func TestDeterminize(t *testing.T) {
	large := 0
	for _, s := range samples() {
		want, sets := determinizedOf(s.NFA, mostSets)
		for _, budget := range []int{len(sets), len(sets) + 1, 4096} {
			checkDeterminize(t, s.NFA, budget, want, sets, api.OK)
		}
		for _, budget := range []int{len(sets) - 1, len(sets) / 2, 1} {
			if 0 < budget && budget < len(sets) {
				checkDeterminize(t, s.NFA, budget, api.DFA{}, nil, api.ErrBudget)
			}
		}
		if len(sets) > 10 {
			large++
		}
	}
	if large < 50 {
		t.Errorf("only %d subset automata are large", large)
	}
}

func TestDeterminizeOfExamples(t *testing.T) {
	d := api.DFA{Vars: 1, Next: [][]int{{0, 1}, {2, 3}, {0, 1}, {2, 3}}, Final: []bool{false, false, true, true}}
	checkDeterminize(t, second(), 4, d, [][]int{{0}, {0, 1}, {0, 2}, {0, 1, 2}}, api.OK)
	checkDeterminize(t, second(), 3, api.DFA{}, nil, api.ErrBudget)
	nothing := api.DFA{Vars: 2, Next: [][]int{{0, 0, 0, 0}}, Final: []bool{false}}
	checkDeterminize(t, api.NFA{Vars: 2}, 1, nothing, [][]int{{}}, api.OK)
	checkDeterminize(t, api.NFA{Vars: 2, States: 1, Final: []int{0}, Edges: []api.Edge{{}}}, 1, nothing, [][]int{{}}, api.OK)
	all := api.NFA{States: 64, Edges: make([]api.Edge, 512)}
	for s := range 64 {
		all.Start = append(all.Start, s)
		all.Edges[8*s] = api.Edge{From: 63 - s, To: s}
	}
	all.Final = []int{63}
	checkDeterminize(t, all, 1, api.DFA{Next: [][]int{{0}}, Final: []bool{true}}, [][]int{all.Start}, api.OK)
}

func TestBudgets(t *testing.T) {
	for _, budget := range []int{math.MinInt, -1, 0, 4097, math.MaxInt} {
		checkDeterminize(t, second(), budget, api.DFA{}, nil, api.ErrArg)
		checkDeterminize(t, fromTheEnd(12, 1), budget, api.DFA{}, nil, api.ErrArg)
		checkDeterminize(t, api.NFA{States: 65}, budget, api.DFA{}, nil, api.ErrLong)
	}
	checkDeterminize(t, fromTheEnd(12, 1), 4095, api.DFA{}, nil, api.ErrBudget)
	checkDeterminize(t, fromTheEnd(13, 1), 4096, api.DFA{}, nil, api.ErrBudget)
	checkDeterminize(t, fromTheEnd(63, 6), 4096, api.DFA{}, nil, api.ErrBudget)
}

// The greatest subset automaton: state k is reached first by the binary digits of k.
func TestGreatestDeterminize(t *testing.T) {
	for _, vars := range []int{1, 6} {
		d, sets, e := subset.Determinize(fromTheEnd(12, vars), 4096)
		if e != api.OK || len(d.Next) != 4096 || len(d.Final) != 4096 || len(sets) != 4096 || d.Vars != vars || d.Start != 0 {
			t.Fatalf("over %d variables there are %d rows, %d sets and the error %d", vars, len(d.Next), len(sets), e)
		}
		for k, l := range sets {
			want := []int{0}
			for i := range 12 {
				if k>>i%2 == 1 {
					want = append(want, i+1)
				}
			}
			if !slices.Equal(l, want) || d.Final[k] != (k >= 2048) {
				t.Errorf("state %d stands for %d and is final: %t", k, l, d.Final[k])
			}
			for x, s := range d.Next[k] {
				if s != (2*k+x%2)%4096 {
					t.Errorf("the letter %d leads from state %d to %d", x, k, s)
				}
			}
		}
	}
}
