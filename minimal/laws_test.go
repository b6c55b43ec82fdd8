package minimal_test

import (
	"slices"
	"testing"

	"sentinel/api"
	"sentinel/internal/dfatest"
	"sentinel/minimal"
	"sentinel/subset"
)

// minimize returns what Minimize returns without an error.
func minimize(t *testing.T, d api.DFA) api.DFA {
	t.Helper()
	m, e := minimal.Minimize(d)
	if e != api.OK {
		t.Fatalf("Minimize(%v) returned the error %d", d, e)
	}
	return m
}

// rounds returns what Rounds returns without an error.
func rounds(t *testing.T, d api.DFA, k int) []int {
	t.Helper()
	l, e := minimal.Rounds(d, k)
	if e != api.OK {
		t.Fatalf("Rounds(%v, %d) returned the error %d", d, k, e)
	}
	return l
}

// classes returns what Classes returns without an error.
func classes(t *testing.T, d api.DFA) []int {
	t.Helper()
	l, e := minimal.Classes(d)
	if e != api.OK {
		t.Fatalf("Classes(%v) returned the error %d", d, e)
	}
	return l
}

// distinguish returns what Distinguish returns without an error.
func distinguish(t *testing.T, d api.DFA, s, u int) ([]uint8, bool) {
	t.Helper()
	w, is, e := minimal.Distinguish(d, s, u)
	if e != api.OK {
		t.Fatalf("Distinguish(%v, %d, %d) returned the error %d", d, s, u, e)
	}
	return w, is
}

// accepts reports whether a word leads from s to a final state.
func accepts(d api.DFA, s int, w []uint8) bool {
	return d.Final[dfatest.EndOf(d, s, w)]
}

// eachPair calls check for all pairs of states.
func eachPair(d api.DFA, check func(s, u int)) {
	for s := range d.Next {
		for u := range d.Next {
			check(s, u)
		}
	}
}

// P8.1 and P8.2: what words of few letters say about the partitions and the distinguishing words.
func TestShortWords(t *testing.T) {
	for _, s := range samples() {
		if s.Vars > 2 {
			continue
		}
		for k := range 5 - s.Vars {
			words, l := dfatest.WordsUpTo(k, s.Vars), rounds(t, s.DFA, k)
			eachPair(s.DFA, func(a, b int) {
				i := slices.IndexFunc(words, func(w []uint8) bool { return accepts(s.DFA, a, w) != accepts(s.DFA, b, w) })
				if (i < 0) != (l[a] == l[b]) {
					t.Errorf("Rounds(%v, %d) = %d, but the first word that distinguishes %d and %d has the place %d", s.DFA, k, l, a, b, i)
				}
				if w, is := distinguish(t, s.DFA, a, b); i >= 0 && (!is || !slices.Equal(w, words[i])) || i < 0 && is && len(w) <= k {
					t.Errorf("Distinguish(%v, %d, %d) = %d, %t, and the first word that does has the place %d", s.DFA, a, b, w, is, i)
				}
			})
		}
	}
}

func TestClassesAreThoseOfThePairs(t *testing.T) {
	for _, s := range samples() {
		l := classes(t, s.DFA)
		eachPair(s.DFA, func(a, b int) {
			w, is := distinguish(t, s.DFA, a, b)
			if is == (l[a] == l[b]) || is && accepts(s.DFA, a, w) == accepts(s.DFA, b, w) {
				t.Errorf("Classes(%v) = %d, but Distinguish(%d, %d) = %d, %t", s.DFA, l, a, b, w, is)
			}
			if same, e := minimal.Equivalent(s.DFA, a, b); e != api.OK || same == is {
				t.Errorf("Equivalent(%v, %d, %d) = %t, %d, but Distinguish returned %t", s.DFA, a, b, same, e, is)
			}
		})
	}
}

func TestClassesAreNumberedBySmallestStates(t *testing.T) {
	for _, s := range samples() {
		for _, l := range [][]int{classes(t, s.DFA), rounds(t, s.DFA, 0), rounds(t, s.DFA, 1), rounds(t, s.DFA, 3)} {
			met := 0
			for a, c := range l {
				if c < 0 || c > met {
					t.Errorf("the classes of %v are %d, but state %d is in class %d", s.DFA, l, a, c)
				}
				met = max(met, c+1)
			}
		}
	}
}

// P8.3

func TestMinimalAutomataAcceptTheSameWords(t *testing.T) {
	for _, s := range samples() {
		m := minimize(t, s.DFA)
		for _, w := range s.words {
			is, e := subset.Accepts(s.DFA, w)
			same, f := subset.Accepts(m, w)
			if e != api.OK || f != api.OK || is != same {
				t.Errorf("%v accepts %d: %t, %d, but minimized %t, %d", s.DFA, w, is, e, same, f)
			}
		}
	}
}

func TestMinimalAutomataHaveAStateForEachClass(t *testing.T) {
	for _, s := range samples() {
		l := classes(t, s.DFA)
		reached := map[int]bool{}
		for _, k := range dfatest.ByFirstVisit(s.Start, 1<<s.Vars, len(s.Next), func(k int, x uint8) int { return s.Next[k][x] }) {
			reached[l[k]] = true
		}
		if m := minimize(t, s.DFA); len(m.Next) != len(reached) || len(m.Final) != len(reached) {
			t.Errorf("the reachable states of %v are in %d classes, but minimized it is %v", s.DFA, len(reached), m)
		}
	}
}

func TestMinimalAutomataStay(t *testing.T) {
	for _, s := range samples() {
		m := minimize(t, s.DFA)
		if again := minimize(t, m); !dfatest.Same(again, m) {
			t.Errorf("%v minimized is %v, and minimized again %v", s.DFA, m, again)
		}
		if r, e := subset.Renumber(m); e != api.OK || !dfatest.Same(r, m) {
			t.Errorf("%v minimized is %v, but renumbered %v, %d", s.DFA, m, r, e)
		}
	}
}

// sameWords reports whether two automata over the same variables accept the same words.
func sameWords(a, b api.DFA) bool {
	l := dfatest.ByFirstVisit([2]int{a.Start, b.Start}, 1<<a.Vars, len(a.Next)*len(b.Next), func(k [2]int, x uint8) [2]int {
		return [2]int{a.Next[k[0]][x], b.Next[k[1]][x]}
	})
	return !slices.ContainsFunc(l, func(k [2]int) bool { return a.Final[k[0]] != b.Final[k[1]] })
}

func TestMinimalAutomataAreEqualForTheSameWords(t *testing.T) {
	draw := dfatest.Choice(83)
	equal, different := 0, 0
	for range 3000 {
		vars := draw.Below(3)
		a := draw.Automaton(vars, 1+draw.Below(3))
		b := draw.Automaton(vars, 1+draw.Below(3))
		if draw.Below(2) == 0 {
			a = imitated(&draw, b, draw.Below(6))
		}
		is := dfatest.Same(minimize(t, a), minimize(t, b))
		if want := sameWords(a, b); is != want {
			t.Errorf("%v and %v accept the same words: %t, but minimized they are equal: %t", a, b, want, is)
		}
		if is {
			equal++
		} else {
			different++
		}
	}
	if equal < 500 || different < 500 {
		t.Errorf("%d pairs of automata accept the same words, and %d do not", equal, different)
	}
}

// P8.4

func TestStatesOfMinimalAutomataAreDistinguished(t *testing.T) {
	for _, s := range samples() {
		m := minimize(t, s.DFA)
		eachPair(m, func(a, b int) {
			w, is := distinguish(t, m, a, b)
			if is != (a != b) || len(w) >= len(m.Next) || is && accepts(m, a, w) == accepts(m, b, w) {
				t.Errorf("Distinguish(%v, %d, %d) = %d, %t", m, a, b, w, is)
			}
		})
	}
}

// P8.5

func TestRoundsThatChangeNothing(t *testing.T) {
	for _, s := range samples() {
		stable := false
		for k := range len(s.Next) + 2 {
			l, next := rounds(t, s.DFA, k), rounds(t, s.DFA, k+1)
			if unchanged := slices.Equal(l, next); stable && !unchanged || k >= len(s.Next) && !unchanged {
				t.Errorf("Rounds(%v, %d) = %d, and one round later %d", s.DFA, k, l, next)
			} else {
				stable = unchanged
			}
		}
		if l, all := rounds(t, s.DFA, len(s.Next)), classes(t, s.DFA); !slices.Equal(l, all) {
			t.Errorf("Rounds(%v, %d) = %d, but Classes = %d", s.DFA, len(s.Next), l, all)
		}
	}
}

// A round keeps two states together exactly if they were and, for each letter, their successors were.
func TestRoundsFollowFromTheRoundBefore(t *testing.T) {
	for _, s := range some(2) {
		l := rounds(t, s.DFA, 0)
		for k := range len(s.Next) {
			next := rounds(t, s.DFA, k+1)
			eachPair(s.DFA, func(a, b int) {
				together := l[a] == l[b]
				for x := range 1 << s.Vars {
					together = together && l[s.Next[a][x]] == l[s.Next[b][x]]
				}
				if together != (next[a] == next[b]) {
					t.Errorf("Rounds(%v, %d) = %d, and one round later %d", s.DFA, k, l, next)
				}
			})
			l = next
		}
	}
}

// The rounds say how many letters the word for a pair of states has.
func TestLettersAndRounds(t *testing.T) {
	for _, s := range some(3) {
		eachPair(s.DFA, func(a, b int) {
			w, is := distinguish(t, s.DFA, a, b)
			if !is {
				return
			}
			before, after := rounds(t, s.DFA, len(w)-1), rounds(t, s.DFA, len(w))
			if after[a] == after[b] || len(w) > 0 && before[a] != before[b] {
				t.Errorf("Distinguish(%v, %d, %d) = %d, but the rounds are %d and %d", s.DFA, a, b, w, before, after)
			}
		})
	}
}
