package minimal_test

import (
	"math"
	"slices"
	"testing"

	"sentinel/api"
	"sentinel/internal/dfatest"
	"sentinel/minimal"
)

// ascending returns the numbers from 0 to n - 1.
func ascending(n int) []int {
	l := make([]int, n)
	for i := range l {
		l[i] = i
	}
	return l
}

// P8.1

func TestMinimize(t *testing.T) {
	smaller, unchanged := 0, 0
	for _, s := range samples() {
		want := dfatest.Minimized(s.DFA)
		checkMinimize(t, s.DFA, want, api.OK)
		switch {
		case len(want.Next) < len(dfatest.Renumbered(s.DFA).Next):
			smaller++
		case len(want.Next) == len(s.Next):
			unchanged++
		}
	}
	if smaller < 200 || unchanged < 30 {
		t.Errorf("%d automata have equivalent reachable states, and %d are minimal up to numbers", smaller, unchanged)
	}
}

func TestMinimizeOfExamples(t *testing.T) {
	l := examples()
	checkMinimize(t, l[0], api.DFA{Vars: 1, Next: [][]int{{0, 1}, {1, 1}}, Final: []bool{true, false}}, api.OK)
	checkMinimize(t, l[1], l[1], api.OK)
	for start, want := range []api.DFA{
		l[1],
		{Next: [][]int{{1}, {1}}, Final: []bool{false, true}},
		{Next: [][]int{{0}}, Final: []bool{true}},
	} {
		l[1].Start = start
		checkMinimize(t, l[1], want, api.OK)
	}
	// The states 1 and 4 are equivalent, as well as 2 and 3; letter 0 leads from the start state 4 to 3, and letter 1 to 0.
	checkMinimize(t,
		api.DFA{Vars: 1, Start: 4, Next: [][]int{{0, 1}, {2, 0}, {2, 4}, {3, 1}, {3, 0}}, Final: []bool{true, false, false, false, false}},
		api.DFA{Vars: 1, Next: [][]int{{1, 2}, {1, 0}, {2, 0}}, Final: []bool{false, false, true}}, api.OK)
	// A state that cannot be reached does not count, though it is not equivalent to any other.
	checkMinimize(t,
		api.DFA{Start: 1, Next: [][]int{{1}, {2}, {1}}, Final: []bool{true, false, false}},
		api.DFA{Next: [][]int{{0}}, Final: []bool{false}}, api.OK)
}

func TestClasses(t *testing.T) {
	for _, s := range samples() {
		checkClasses(t, s.DFA, dfatest.Equivalent(s.DFA), api.OK)
	}
}

func TestClassesOfExamples(t *testing.T) {
	l := examples()
	checkClasses(t, l[0], []int{0, 0, 1}, api.OK)
	checkClasses(t, l[1], []int{0, 1, 2}, api.OK)
	l[0].Start = 2 // The start state does not matter.
	checkClasses(t, l[0], []int{0, 0, 1}, api.OK)
	all := []bool{true, true, true}
	checkClasses(t, api.DFA{Next: l[1].Next, Final: all}, []int{0, 0, 0}, api.OK)
	checkClasses(t, api.DFA{Next: l[1].Next, Final: make([]bool, 3)}, []int{0, 0, 0}, api.OK)
	checkClasses(t,
		api.DFA{Next: [][]int{{3}, {4}, {4}, {3}, {4}}, Final: []bool{false, true, false, true, false}},
		[]int{0, 1, 2, 3, 2}, api.OK)
}

func TestRounds(t *testing.T) {
	late := 0
	for _, s := range samples() {
		table := dfatest.Distinctions(s.DFA)
		for k := -2; k <= len(s.Next)+1; k++ {
			checkRounds(t, s.DFA, k, dfatest.Together(table, k), api.OK)
		}
		checkRounds(t, s.DFA, math.MinInt, dfatest.Together(table, 0), api.OK)
		checkRounds(t, s.DFA, math.MaxInt, dfatest.Together(table, math.MaxInt), api.OK)
		if !slices.Equal(dfatest.Together(table, 4), dfatest.Together(table, 5)) {
			late++
		}
	}
	if late < 40 {
		t.Errorf("only %d automata change in round 5", late)
	}
}

func TestRoundsOfExamples(t *testing.T) {
	d := examples()[1]
	for k, want := range [][]int{{0, 0, 1}, {0, 1, 2}, {0, 1, 2}} {
		checkRounds(t, d, k, want, api.OK)
	}
	checkRounds(t, d, -7, []int{0, 0, 1}, api.OK)
	// The largest part of a class does not always contain its smallest state.
	d = api.DFA{Next: [][]int{{1}, {2}, {2}, {3}, {3}, {3}}, Final: []bool{false, false, true, false, false, false}}
	for k, want := range [][]int{{0, 0, 1, 0, 0, 0}, {0, 1, 2, 0, 0, 0}, {0, 1, 2, 3, 3, 3}, {0, 1, 2, 3, 3, 3}} {
		checkRounds(t, d, k, want, api.OK)
	}
}

// A round looks at the classes of the round before, not at those that it has already split.
func TestRoundsAreOneAfterTheOther(t *testing.T) {
	for _, vars := range []int{0, 1, 3} {
		forwards := dfatest.Line(vars, 9)
		backwards := dfatest.Shaped(vars, 9, func(s, x int) int { return max(s-1, 0) }, func(s int) bool { return s == 0 })
		for k := range 8 {
			checkRounds(t, forwards, k, append(make([]int, 8-k), ascending(k + 2)[1:]...), api.OK)
			checkRounds(t, backwards, k, append(ascending(k+1), slices.Repeat([]int{k + 1}, 8-k)...), api.OK)
		}
	}
}

// P8.2

func TestDistinguishAndEquivalent(t *testing.T) {
	long := 0
	for _, s := range samples() {
		for a, row := range dfatest.Distinctions(s.DFA) {
			for b, want := range row {
				checkPair(t, s.DFA, a, b, want, api.OK)
				if len(want.Word) > 5 {
					long++
				}
			}
		}
	}
	if long < 1000 {
		t.Errorf("only %d words are long", long)
	}
}

func TestDistinguishOfExamples(t *testing.T) {
	l := examples()
	checkPair(t, l[0], 0, 2, by(nil), api.OK)
	checkPair(t, l[0], 0, 1, dfatest.Distinction{}, api.OK)
	checkPair(t, l[1], 0, 1, by([]uint8{0}), api.OK)
	checkPair(t, l[1], 1, 0, by([]uint8{0}), api.OK)
	checkPair(t, l[1], 0, 2, by(nil), api.OK)
	checkPair(t, l[1], 1, 1, dfatest.Distinction{}, api.OK)
	// The shortest word is smaller than the first one letter by letter: 3 before 0 3, and 2 before 3.
	d := api.DFA{Vars: 2, Next: [][]int{{1, 1, 1, 2}, {1, 1, 1, 1}, {2, 2, 2, 2}, {0, 1, 1, 1}, {0, 1, 2, 2}}, Final: []bool{false, false, true, false, false}}
	checkPair(t, d, 0, 1, by([]uint8{3}), api.OK)
	checkPair(t, d, 3, 1, by([]uint8{0, 3}), api.OK)
	checkPair(t, d, 3, 0, by([]uint8{3}), api.OK)
	checkPair(t, d, 4, 3, by([]uint8{2}), api.OK)
}

func TestStates(t *testing.T) {
	for _, d := range []api.DFA{examples()[0], dfatest.Line(2, 4096)} {
		for _, s := range []int{math.MinInt, -1, len(d.Next), math.MaxInt} {
			checkPair(t, d, s, 0, dfatest.Distinction{}, api.ErrState)
			checkPair(t, d, 0, s, dfatest.Distinction{}, api.ErrState)
			checkPair(t, d, s, s, dfatest.Distinction{}, api.ErrState)
		}
		last := len(d.Next) - 1
		checkPair(t, d, last, last, dfatest.Distinction{}, api.OK)
		checkPair(t, d, last, 0, by(nil), api.OK)
	}
}

// The greatest automata, with partitions that take many rounds and with words that have many letters.
func TestGreatestLines(t *testing.T) {
	for _, vars := range []int{0, 6} {
		d := dfatest.Line(vars, 4096)
		checkMinimize(t, d, d, api.OK)
		checkClasses(t, d, ascending(4096), api.OK)
		checkRounds(t, d, 4093, append([]int{0}, ascending(4095)...), api.OK)
		checkRounds(t, d, 4094, ascending(4096), api.OK)
		checkRounds(t, d, math.MaxInt, ascending(4096), api.OK)
		checkPair(t, d, 0, 1, by(make([]uint8, 4094)), api.OK)
		checkPair(t, d, 1000, 4000, by(make([]uint8, 95)), api.OK)
		longer := dfatest.Line(vars, 4097)
		checkFault(t, longer, api.ErrLong)
	}
}

func TestGreatestCycles(t *testing.T) {
	for _, vars := range []int{0, 6} {
		for every := 1; every <= 4096; every *= 16 {
			d := dfatest.Cycle(vars, 4096, every)
			want := make([]int, 4096)
			for s := range want {
				want[s] = s % every
			}
			checkMinimize(t, d, dfatest.Cycle(vars, every, every), api.OK)
			checkClasses(t, d, want, api.OK)
			checkPair(t, d, 0, 4096-every, dfatest.Distinction{}, api.OK)
			if every > 1 {
				checkPair(t, d, 4096-every, 1, by(make([]uint8, every-2)), api.OK)
			}
		}
	}
}

func TestGreatestTrees(t *testing.T) {
	for _, vars := range []int{1, 6} {
		d := dfatest.Recent(vars, 0, 12)
		checkMinimize(t, d, d, api.OK)
		for k := range 13 {
			want := make([]int, 4096)
			for s := range want {
				want[s] = s >> max(0, 11-k)
			}
			checkRounds(t, d, k, want, api.OK)
		}
		for k := range 12 {
			checkPair(t, d, 4095, 4095-1<<k, by(make([]uint8, 11-k)), api.OK)
		}
	}
}

// Round 1 makes a thousand classes of one, and round 2 does so with the states that lead to them.
func TestManyClassesInARound(t *testing.T) {
	const n, final, other = 1000, 2001, 2000
	d := dfatest.Shaped(4, 2002, func(s, x int) int {
		switch {
		case s < n:
			return n + s
		case s < 2*n && (s-n+1)>>x%2 == 1, s == final:
			return final
		}
		return other
	}, func(s int) bool { return s == final })
	checkRounds(t, d, 0, append(make([]int, 2001), 1), api.OK)
	checkRounds(t, d, 1, slices.Concat(make([]int, n), ascending(n + 1)[1:], []int{0, n + 1}), api.OK)
	checkRounds(t, d, 2, ascending(2002), api.OK)
	checkClasses(t, d, ascending(2002), api.OK)
}

// The word for a pair may go on from two states that are equivalent to those of another pair, but not the same.
func TestDistinguishAcrossCopies(t *testing.T) {
	draw := dfatest.Choice(82)
	for range 30 {
		d := imitated(&draw, dfatest.Line(1, 12), 30)
		table := dfatest.Distinctions(d)
		for range 20 {
			s, u := draw.Below(len(d.Next)), draw.Below(len(d.Next))
			checkPair(t, d, s, u, table[s][u], api.OK)
		}
		if m, e := minimal.Minimize(d); e != api.OK || len(m.Next) > 12 {
			t.Errorf("Minimize(%v) = %v, %d", d, m, e)
		}
	}
}
