package compile_test

import (
	"math"
	"slices"
	"strings"
	"testing"

	"sentinel/api"
	"sentinel/compile"
	"sentinel/internal/dfatest"
	"sentinel/regex"
)

// checkFromRegex checks FromRegex; with an error it must return nothing else.
func checkFromRegex(t *testing.T, s sample, budget int, want api.DFA, fault api.Errno) {
	t.Helper()
	if d, e := compile.FromRegex(s.Regex, s.vars, budget); e != fault || !dfatest.Same(d, want) {
		t.Errorf("FromRegex(%q, %d, %d) = %v, %d, want %v, %d", s.text, s.vars, budget, d, e, want, fault)
	}
}

// checkAccepts checks Accepts; with an error it must return nothing else.
func checkAccepts(t *testing.T, s sample, budget int, w []uint8, want bool, fault api.Errno) {
	t.Helper()
	if is, e := compile.Accepts(s.Regex, s.vars, budget, w); e != fault || is != want {
		t.Errorf("Accepts(%q, %d, %d, %d) = %t, %d, want %t, %d", s.text, s.vars, budget, w, is, e, want, fault)
	}
}

// checkToRegex checks ToRegex; with an error it must return nothing else.
func checkToRegex(t *testing.T, d api.DFA, want api.Regex, fault api.Errno) {
	t.Helper()
	if e, f := compile.ToRegex(d); f != fault || !slices.Equal(e, want) {
		t.Errorf("ToRegex(%v) = %v, %d, want %v, %d", d, e, f, want, fault)
	}
}

// checkText checks ToRegex for an automaton whose elimination expression has the given text.
func checkText(t *testing.T, d api.DFA, text string) {
	t.Helper()
	checkToRegex(t, d, parsed(t, text, d.Vars).Regex, api.OK)
}

// compiled returns the automaton of a sample, or false if it cannot be computed.
func compiled(t *testing.T, s sample) (api.DFA, bool) {
	t.Helper()
	d, e := compile.FromRegex(s.Regex, s.vars, 4096)
	if e != api.OK && (e != api.ErrBudget || len(s.Regex) <= 8) {
		t.Fatalf("FromRegex(%q, %d, 4096) returned the error %d", s.text, s.vars, e)
	}
	return d, e == api.OK
}

// automaton returns an automaton in which the rows say where the letters lead, and which states are final.
func automaton(vars int, final string, rows ...[]int) api.DFA {
	d := api.DFA{Vars: vars, Next: rows}
	for _, sign := range final {
		d.Final = append(d.Final, sign == '+')
	}
	return d
}

// P10.1

func TestAutomataOfAllSmallExpressions(t *testing.T) {
	for n := range 4 {
		plain, looking := textsOf(n + 1)
		for _, text := range append(plain, looking...) {
			s := parsed(t, text, 1)
			checkFromRegex(t, s, 4096, s.automatonOf(t, 4), api.OK)
		}
	}
}

func TestAutomataOfExpressions(t *testing.T) {
	draw := choice{102}
	sizes := map[int]int{}
	check := func(s sample) {
		if d, is := compiled(t, s); is && len(d.Next) <= 7 {
			checkFromRegex(t, s, 4096, s.automatonOf(t, 5), api.OK)
			sizes[len(d.Next)]++
		}
	}
	for k := range 400 {
		check(parsed(t, draw.text(5+draw.Below(10), k%2, k%3 > 0), k%2))
	}
	for _, s := range draw.rows(400) {
		if s.vars == 1 {
			check(s)
		}
	}
	for n := 2; n <= 7; n++ {
		if sizes[n] < 5 {
			t.Errorf("only %d automata have %d states", sizes[n], n)
		}
	}
}

// The automaton is minimal, its states are numbered by first visit, and it accepts what the expression accepts:
// so it is the automaton of the expression unless words matter that have not been tried.
func TestAutomataOfLargeExpressions(t *testing.T) {
	large, refused := 0, 0
	draw := choice{103}
	for _, s := range samples(t) {
		d, is := compiled(t, s)
		if !is {
			refused++
			continue
		}
		if d.Vars != s.vars || len(d.Next) <= 64 && !dfatest.Same(d, dfatest.Minimized(d)) {
			t.Errorf("FromRegex(%q, %d) = %v is not minimal", s.text, s.vars, d)
		}
		if len(d.Next) > 9 {
			large++
		}
		for _, w := range draw.wordsFor(s.vars) {
			if is := s.accepts(t, w); d.Final[dfatest.EndOf(d, d.Start, w)] != is {
				t.Errorf("the expression %q accepts %d: %t, and its automaton does not agree", s.text, w, is)
				break
			}
		}
	}
	if large < 40 || refused > 10 {
		t.Errorf("%d automata are large, and %d cannot be computed", large, refused)
	}
}

func TestAutomataOfEachOperator(t *testing.T) {
	for text, want := range map[string]api.DFA{
		"0":                         automaton(1, "-", []int{0, 0}),
		"1":                         automaton(1, "+-", []int{1, 1}, []int{1, 1}),
		"[*]":                       automaton(1, "-+-", []int{1, 1}, []int{2, 2}, []int{2, 2}),
		"[a]":                       automaton(1, "--+", []int{1, 2}, []int{1, 1}, []int{1, 1}),
		"[!a]":                      automaton(1, "-+-", []int{1, 2}, []int{2, 2}, []int{2, 2}),
		"(~0)":                      automaton(1, "+", []int{0, 0}),
		"(~1)":                      automaton(1, "-+", []int{1, 1}, []int{1, 1}),
		"(0*)":                      automaton(1, "+-", []int{1, 1}, []int{1, 1}),
		"([*]*)":                    automaton(1, "+", []int{0, 0}),
		"([a]*)":                    automaton(1, "+-", []int{1, 0}, []int{1, 1}),
		"(([a].[!a])*)":             automaton(1, "+--", []int{1, 2}, []int{1, 1}, []int{0, 1}),
		"([a].[!a])":                automaton(1, "---+", []int{1, 2}, []int{1, 1}, []int{3, 1}, []int{1, 1}),
		"([a]|[!a])":                automaton(1, "-+-", []int{1, 1}, []int{2, 2}, []int{2, 2}),
		"([a]|1)":                   automaton(1, "+-+", []int{1, 2}, []int{1, 1}, []int{1, 1}),
		"([a]&[!a])":                automaton(1, "-", []int{0, 0}),
		"(([*]*)&[a])":              automaton(1, "--+", []int{1, 2}, []int{1, 1}, []int{1, 1}),
		"(>[a])":                    automaton(1, "-", []int{0, 0}),
		"(>([a]*))":                 automaton(1, "+-", []int{1, 1}, []int{1, 1}),
		"(<[a])":                    automaton(1, "-", []int{0, 0}),
		"(<1)":                      automaton(1, "+-", []int{1, 1}, []int{1, 1}),
		"(([*]*).(<[a]))":           automaton(1, "-+", []int{0, 1}, []int{0, 1}),
		"(([*]*).(>[a]))":           automaton(1, "-", []int{0, 0}),
		"((>[a]).([*]*))":           automaton(1, "--+", []int{1, 2}, []int{1, 1}, []int{2, 2}),
		"((<[a]).([*]*))":           automaton(1, "-", []int{0, 0}),
		"((>[a])|[!a])":             automaton(1, "-+-", []int{1, 2}, []int{2, 2}, []int{2, 2}),
		"((>(~[a])).[a])":           automaton(1, "--+", []int{1, 2}, []int{1, 1}, []int{1, 1}),
		"((>([a].1)).[*])":          automaton(1, "--+", []int{1, 2}, []int{1, 1}, []int{1, 1}),
		"(([*]*).((<[a]).[!a]))":    automaton(1, "--+", []int{0, 1}, []int{2, 1}, []int{0, 1}),
		"([*].((<[a])|(>[a])))":     automaton(1, "--+", []int{1, 2}, []int{1, 1}, []int{1, 1}),
		"([*].((<[a]).(>[a])))":     automaton(1, "-", []int{0, 0}),
		"((([*].[*])*).(>([a]*)))":  automaton(1, "+-", []int{1, 1}, []int{0, 0}),
		"(((>[a])|(>[!a])).([*]*))": automaton(1, "-+", []int{1, 1}, []int{1, 1}),
	} {
		checkFromRegex(t, parsed(t, text, 1), 4096, want, api.OK)
	}
}

func TestAutomataOfExamples(t *testing.T) {
	second := automaton(1, "--++", []int{0, 1}, []int{2, 3}, []int{0, 1}, []int{2, 3})
	checkFromRegex(t, parsed(t, "(([*]*).([a].[*]))", 1), 4096, second, api.OK)
	for text, states := range map[string]int{"0": 1, "(~0)": 1, "1": 2, "([a]*)": 2, "[a]": 3} {
		for vars := 1; vars < 7; vars++ {
			if d, e := compile.FromRegex(parsed(t, text, vars).Regex, vars, 4096); len(d.Next) != states || e != api.OK {
				t.Errorf("FromRegex(%q, %d) has %d states and the error %d, want %d states", text, vars, len(d.Next), e, states)
			}
		}
	}
	ahead := automaton(2, "---+", []int{1, 1, 1, 1}, []int{2, 2, 3, 3}, []int{2, 2, 2, 2}, []int{3, 3, 3, 3})
	checkFromRegex(t, parsed(t, "((>([*].[b])).([*]*))", 2), 4096, ahead, api.OK)
}

// A look-ahead may see what follows after the block that it is in, a look-behind what comes before it,
// and both of them what the other one sees.
func TestLookAroundsAcrossBlocks(t *testing.T) {
	for _, x := range []struct{ text, same string }{
		{"(([a].(>[b])).([*]*))", "([a].([b].([*]*)))"},
		{"(([a].(>([*].[b]))).([a].([*]*)))", "([a].([a].([b].([*]*))))"},
		{"(([*]*).([a].((<([b].[*])).[*])))", "(([*]*).([b].([a].[*])))"},
		{"([a].((>([b].[c])).([*].((<([a].[b])).[*]))))", "([a].([b].[c]))"},
		{"([*].((>[b]).([*].((<([a].[*])).[c]))))", "([a].([b].[c]))"},
		{"(([*]*).((<[a]).((>[b]).([*]*))))", "(([*]*).([a].([b].([*]*))))"},
		{"(([*]*).((>[b]).((<[a]).([*]*))))", "(([*]*).([a].([b].([*]*))))"},
		{"(([*]*).(((<[a])|(>[b])).[c]))", "(([*]*).(([a].[c])|[bc]))"},
		{"(([*]*).((((<[a]).[b])|((<[b]).[a])).[*]))", "(([*]*).((([a].[b])|([b].[a])).[*]))"},
		{"((([a].(>[b]))|([b].(>[a]))).([*]*))", "((([a].[b])|([b].[a])).([*]*))"},
		{"([*].(((>[b]).((<[a]).[*]))|((<[b]).([*].(<[a])))))", "(([a].[b])|([b].[a]))"},
		{"([*].((<[a]).([*].((<[b]).([*].(<[c]))))))", "([a].([b].[c]))"},
		{"((>([*].([*].[c]))).((>([*].[b])).((>[a]).([*].([*].[*])))))", "([a].([b].[c]))"},
		{"((>(~([*]*))).([*]*))", "0"},
		{"((>(~(([*]*).[a]))).[a])", "[a]"},
		{"([a].((<(~([*]*))).[*]))", "0"},
		{"([*].(((<[a]).0)|((<[b]).[*])))", "([b].[*])"},
	} {
		want, e := compile.FromRegex(parsed(t, x.same, 3).Regex, 3, 4096)
		if e != api.OK {
			t.Errorf("FromRegex(%q) returned the error %d", x.same, e)
		}
		checkFromRegex(t, parsed(t, x.text, 3), 4096, want, api.OK)
	}
}

// repeated returns the text of so many letters without literals, joined from the left or from the right.
func repeated(letters int, left bool) string {
	text := "[*]"
	for range letters - 1 {
		if left {
			text = "(" + text + ".[*])"
		} else {
			text = "([*]." + text + ")"
		}
	}
	return text
}

// Automata have as many states as the limit allows, but no more.
func TestAutomataOfGreatestSize(t *testing.T) {
	draw := choice{104}
	for _, vars := range []int{1, 6} {
		for _, digits := range []int{2, 5, 11, 12} {
			want := dfatest.Recent(vars, 0, digits)
			for _, left := range []bool{false, true} {
				text := "(([*]*).([a]." + repeated(digits-1, left) + "))"
				d, is := compiled(t, parsed(t, text, vars))
				if !is || len(d.Next) != 1<<digits || digits < 6 && !dfatest.Same(d, dfatest.Minimized(want)) {
					t.Fatalf("FromRegex(%q, %d) has %d states", text, vars, len(d.Next))
				}
				for range 200 {
					w := draw.Word(draw.Below(30), vars)
					if is := d.Final[dfatest.EndOf(d, 0, w)]; is != want.Final[dfatest.EndOf(want, 0, w)] {
						t.Errorf("the automaton of %q accepts %d: %t", text, w, is)
					}
				}
			}
		}
		checkFromRegex(t, parsed(t, "(([*]*).([a]."+repeated(12, false)+"))", vars), 4096, api.DFA{}, api.ErrBudget)
		checkFromRegex(t, parsed(t, "(([*]*).([a]."+repeated(11, false)+"))", vars), 4095, api.DFA{}, api.ErrBudget)
	}
}

// An automaton with more states than the budget is refused; if it is refused with a budget, then with all smaller ones.
func TestBudgets(t *testing.T) {
	tight, refused := 0, 0
	for _, s := range some(t, 2) {
		want, is := compiled(t, s)
		if !is {
			continue
		}
		enough := false
		for b := max(1, len(want.Next)-3); b < len(want.Next)+24; b++ {
			d, e := compile.FromRegex(s.Regex, s.vars, b)
			switch {
			case e == api.OK && (b < len(want.Next) || !dfatest.Same(d, want)):
				t.Errorf("FromRegex(%q, %d, %d) = %v, but with the budget 4096 it is %v", s.text, s.vars, b, d, want)
			case e != api.OK && (e != api.ErrBudget || enough || !dfatest.Same(d, api.DFA{})):
				t.Errorf("FromRegex(%q, %d, %d) = %v, %d, with a smaller budget successful: %t", s.text, s.vars, b, d, e, enough)
			}
			switch {
			case e == api.OK && b == len(want.Next):
				tight++
			case e != api.OK && b >= len(want.Next):
				refused++
			}
			enough = enough || e == api.OK
		}
		checkFromRegex(t, s, 1, api.DFA{}, api.ErrBudget)
	}
	if tight < 50 || refused < 50 {
		t.Errorf("for %d expressions the number of states is enough, and %d larger budgets are not", tight, refused)
	}
}

func TestBudgetsOfExamples(t *testing.T) {
	for _, x := range []struct {
		text   string
		states int // with which the budget is enough
	}{
		{"0", 1}, {"1", 2}, {"[a]", 3}, {"[*]", 3}, {"([a].[b])", 4}, {"([a].([b].([a].[b])))", 6}, {"(~0)", 1},
		{"(([*]*).([a].[*]))", 4}, {"(([*]*).([a].([*].[*])))", 8}, {"((>([*].[b])).([*]*))", 4},
		{"((~[a])&([*].[b]))", 4}, {"(([*]*).(([a].[b]).([*]*)))", 4},
	} {
		s := parsed(t, x.text, 2)
		for b := 1; b < x.states; b++ {
			checkFromRegex(t, s, b, api.DFA{}, api.ErrBudget)
		}
		for _, b := range []int{x.states, x.states + 1, 100, 4095, 4096} {
			if d, e := compile.FromRegex(s.Regex, 2, b); e != api.OK || len(d.Next) > x.states {
				t.Errorf("FromRegex(%q, 2, %d) = %v, %d", x.text, b, d, e)
			}
		}
	}
}

// Expressions of at most eight pieces are never refused with the greatest budget.
func TestEightPieces(t *testing.T) {
	draw := choice{105}
	for k := range 6000 {
		s := parsed(t, draw.text(5+k%4, k%7, k%3 == 0), k%7)
		if _, e := compile.FromRegex(s.Regex, s.vars, 4096); e != api.OK {
			t.Errorf("FromRegex(%q, %d, 4096) returned the error %d", s.text, s.vars, e)
		}
	}
	for _, text := range []string{
		"(([a].((~[*]).[b]))*)", "(((~[*]).([a].[*]))*)", "(((~([*].[*])).[a])*)", "((([a].(~[*]))*).[b])",
		"(([*]*).([a].([*].[*])))", "((~[*]).([a].([*].[*])))", "((([*]*).([a].[*]))*)", "(~(([*]*).([a].[*])))",
		"((>(([*]*).[a])).([b]*))", "(([*]*).(<([a].[*])))", "((<[a]).((>[b]).[*]))", "((([*]*).(<[a])).[b])",
	} {
		for _, vars := range []int{2, 6} {
			if _, is := compiled(t, parsed(t, text, vars)); !is || len(parsed(t, text, vars).Regex) > 8 {
				t.Errorf("FromRegex(%q, %d, 4096) returned an error, or it is too long", text, vars)
			}
		}
	}
}

// What makes no difference does not need states: where a word is that may be accepted if another one is already, what a
// look-behind has seen where it cannot be asked any more, or only in another alternative, or what it
// cannot have seen there.
func TestBudgetsOnTheWay(t *testing.T) {
	for _, x := range []struct {
		text   string
		budget int
	}{
		{"(([*]*).(([a].([*].([*].[*]))).([*]*)))", 9},
		{"((([a].([*].([*].[*]))).([*]*))*)", 6},
		{"(([a].([a].([a].[b])))*)", 6},
		{"((([*]*).(<([a].([*].[*])))).([*].([*].([*].[*]))))", 128},
		{"((((([*].[*]).[*]).(<[a]))|(([*].[*]).(<([a].[a])))).([b]*))", 9},
		{"((([*]*).(<([a].([*].[*]))))|(([*]*).(<([b].([*].[*])))))", 64},
		{"(([a!b].([a!b].([a!b].([a!b].([a!b].[a!b]))))).((<([!b].([*].([*].[*])))).[*]))", 16},
		{"(([*]*).(((<([b].([*].[*])))|1)|([*].([*].[*]))))", 15},
		{"(((<[a]).(<([a].[a]))).([*].([*].[*])))", 5},
		{"((<[a]).(([*]*).((<([b].([*].[*]))).([*].([*].[*])))))", 8},
	} {
		s := parsed(t, x.text, 2)
		if _, f := compile.FromRegex(s.Regex, 2, x.budget); f != api.OK {
			t.Errorf("FromRegex(%q, 2, %d) returned the error %d", x.text, x.budget, f)
		}
	}
}

// 21 look-arounds are the most that an expression can have.
func TestManyLookArounds(t *testing.T) {
	for _, x := range []struct{ one, whole string }{{"(<1)", "1"}, {"(>1)", "1"}, {"(<[a])", "0"}, {"(>0)", "0"}} {
		for _, operator := range []string{".", "|"} {
			text := x.one
			for range 20 {
				text = "(" + text + operator + x.one + ")"
			}
			s := parsed(t, text, 1)
			if len(s.Regex) < 62 {
				t.Fatalf("%q has only %d pieces", text, len(s.Regex))
			}
			d, _ := compiled(t, parsed(t, x.whole, 1))
			checkFromRegex(t, s, 4096, d, api.OK)
		}
	}
	// Each letter but the first one is between two look-behinds that ask for a.
	text := "(([*]*).(<[a]))"
	for range 11 {
		text = "((" + text + ".[*]).(<[a]))"
	}
	s := parsed(t, text, 1)
	d, _ := compiled(t, s)
	for n := range 20 {
		ones := slices.Repeat([]uint8{1}, n)
		if want := n >= 12; d.Final[dfatest.EndOf(d, 0, ones)] != want || s.accepts(t, ones) != want {
			t.Errorf("%q accepts %d: %t", text, ones, !want)
		}
	}
}

// P10.2

func TestAccepts(t *testing.T) {
	accepted, all := 0, 0
	draw := choice{106}
	for _, s := range samples(t) {
		if _, is := compiled(t, s); !is {
			checkAccepts(t, s, 4096, nil, false, api.ErrBudget)
			continue
		}
		for range 8 {
			w := draw.Word(draw.Below(10), s.vars)
			want := s.accepts(t, w)
			checkAccepts(t, s, 4096, w, want, api.OK)
			all++
			if want {
				accepted++
			}
		}
	}
	if accepted < all/5 || accepted > all-all/5 {
		t.Errorf("%d of %d words are accepted", accepted, all)
	}
}

func TestAcceptsOfExamples(t *testing.T) {
	ahead := parsed(t, "((>([*].[b])).([*]*))", 2)
	for n := range 4 {
		for _, w := range dfatest.WordsUpTo(n, 2) {
			checkAccepts(t, ahead, 4096, w, len(w) >= 2 && w[1] >= 2, api.OK)
		}
	}
	long := parsed(t, "(([a].[!a])*)", 1)
	w := slices.Repeat([]uint8{1, 0}, 32)
	checkAccepts(t, long, 3+1, w, true, api.OK)
	checkAccepts(t, long, 4096, w[:63], false, api.OK)
	checkAccepts(t, long, 4096, w[1:], false, api.OK)
}

func TestToRegexOfExamples(t *testing.T) {
	checkText(t, automaton(0, "-+-", []int{1}, []int{2}, []int{2}), "[*]")
	checkText(t, automaton(0, "+", []int{0}), "((1|[*])|(((1|[*]).((1|[*])*)).(1|[*])))")
	for vars := range 7 {
		checkText(t, dfatest.Shaped(vars, 1, func(int, int) int { return 0 }, func(int) bool { return false }), "0")
	}
	checkText(t, automaton(1, "+-", []int{1, 1}, []int{1, 1}), "1")
	checkText(t, automaton(1, "-+-", []int{2, 1}, []int{2, 2}, []int{2, 2}), "[a]")
	checkText(t, automaton(1, "-+-", []int{1, 1}, []int{2, 2}, []int{2, 2}), "([!a]|[a])")
	checkText(t, automaton(2, "-+-", []int{2, 1, 2, 1}, []int{2, 2, 2, 2}, []int{2, 2, 2, 2}), "([a!b]|[ab])")
	checkText(t, automaton(1, "+-", []int{1, 0}, []int{1, 1}), "((1|[a])|(((1|[a]).((1|[a])*)).(1|[a])))")
	// Not 1 alone: the empty word is also a word from state 0 to itself.
	checkText(t, automaton(1, "++-", []int{2, 1}, []int{2, 2}, []int{2, 2}), "(1|[a])")
	// The final states come in ascending order; the second one leads to the first one.
	checkText(t, automaton(1, "-++-", []int{1, 2}, []int{3, 3}, []int{1, 3}, []int{3, 3}), "(([!a]|([a].[!a]))|[a])")
	checkText(t, automaton(1, "-++-", []int{2, 1}, []int{2, 3}, []int{3, 3}, []int{3, 3}), "(([!a]|([a].[!a]))|[a])")
	// Neither concatenations nor alternations within an operand are taken apart.
	checkText(t, automaton(0, "---+-", []int{1}, []int{2}, []int{3}, []int{4}, []int{4}), "(([*].[*]).[*])")
	checkText(t, automaton(1, "----+", []int{1, 2}, []int{3, 4}, []int{1, 3}, []int{3, 3}, []int{3, 3}), "(([!a].[a])|([a].([!a].[a])))")
}

// textOf returns the text of the elimination expression of the model.
func textOf(t *testing.T, d api.DFA) string {
	t.Helper()
	e, fault := eliminationOf(d)
	text, f := regex.Format(e, d.Vars)
	if fault != api.OK || f != api.OK {
		t.Fatalf("the model of %v has the error %d, %d", d, fault, f)
	}
	return text
}

// automata returns automata many of which have short elimination expressions.
func automata() []api.DFA {
	draw := dfatest.Choice(107)
	var l []api.DFA
	for range 600 {
		l = append(l, draw.Automaton(draw.Below(3), 1+draw.Below(6)))
	}
	for k := range 900 { // Most letters lead to the last state, which is not final, and few lead back.
		vars, states := k%4, 2+draw.Below(12)
		d := dfatest.Shaped(vars, states,
			func(s, x int) int {
				switch {
				case x == draw.Below(1<<vars):
					return min(s+1, states-1)
				case draw.Below(8) == 0 && s < states-1:
					return draw.Below(states)
				}
				return states - 1
			},
			func(s int) bool { return s < states-1 && (s == states-2 || draw.Below(6) == 0) })
		d.Start = draw.Below(min(2, states))
		l = append(l, d)
	}
	return l
}

func TestToRegex(t *testing.T) {
	short, starred, long := 0, 0, 0
	for _, d := range automata() {
		want, fault := eliminationOf(d)
		checkToRegex(t, d, want, fault)
		switch {
		case fault != api.OK:
			long++
		case slices.ContainsFunc(want, func(p api.Piece) bool { return p.Op == api.RxStar }):
			starred++
		case len(want) > 5:
			short++
		}
	}
	if short < 100 || starred < 100 || long < 100 {
		t.Errorf("of the elimination expressions %d are short, %d contain a star, and %d are too long", short, starred, long)
	}
}

// The automaton of one word of 32 letters has an expression of 63 pieces, and two
// letters instead of one give it two more.
func TestLongestEliminationExpressions(t *testing.T) {
	for _, vars := range []int{0, 1, 6} {
		for letters := 30; letters < 40; letters++ {
			d := dfatest.Shaped(vars, letters+2,
				func(s, x int) int {
					if x == 1<<vars-1 {
						return min(s+1, letters+1)
					}
					return letters + 1
				},
				func(s int) bool { return s == letters })
			want, fault := eliminationOf(d)
			if (fault == api.OK) != (letters <= 32) {
				t.Errorf("the model for a word of %d letters has the error %d", letters, fault)
			}
			checkToRegex(t, d, want, fault)
			if letters == 32 && len(want) != 63 {
				t.Errorf("the expression of a word of 32 letters has %d pieces", len(want))
			}
			if vars > 0 {
				d.Next[0][0] = 1
				want, fault = eliminationOf(d)
				checkToRegex(t, d, want, fault)
			}
		}
	}
}

// A tree of states without a way back: no automaton with more than 34 states has a short expression.
func TestEliminationOfManyStates(t *testing.T) {
	draw := dfatest.Choice(108)
	for k := range 60 {
		states := 30 + k%12
		d := dfatest.Shaped(2, states,
			func(s, x int) int {
				if next := 2*s + 1 + x; x < 2 && next < states-1 {
					return next
				}
				return states - 1
			},
			func(s int) bool { return s < states-1 && (2*s+1 >= states-1 && s%2 == 0 || draw.Below(9) == 0) })
		want, fault := eliminationOf(d)
		checkToRegex(t, d, want, fault)
		if m := dfatest.Minimized(d); len(m.Next) > 34 && fault == api.OK {
			t.Errorf("the model of an automaton with %d states has %d pieces", len(m.Next), len(want))
		}
	}
	for _, vars := range []int{0, 3, 6} {
		checkToRegex(t, dfatest.Line(vars, 4096), nil, api.ErrLong)
		checkToRegex(t, dfatest.Cycle(vars, 4096, 4096), nil, api.ErrLong)
		checkToRegex(t, dfatest.Cycle(vars, 35, 35), nil, api.ErrLong)
	}
	// All states of this cycle are equivalent, and most states of the line cannot be reached.
	checkText(t, dfatest.Cycle(0, 4096, 1), "((1|[*])|(((1|[*]).((1|[*])*)).(1|[*])))")
	line := dfatest.Line(0, 4096)
	line.Next[1][0], line.Final[1] = 1, true
	checkText(t, line, textOf(t, dfatest.Line(0, 2)))
}

// P10.1 and P10.2: the arguments of the functions

func TestErrorsOfFromRegex(t *testing.T) {
	s := parsed(t, "[a]", 1)
	for _, b := range []int{math.MinInt, -1, 0, 4097, 1 << 32, 1<<32 + 1, math.MaxInt} {
		checkFromRegex(t, s, b, api.DFA{}, api.ErrArg)
		checkAccepts(t, s, b, nil, false, api.ErrArg)
		checkAccepts(t, s, b, []uint8{9}, false, api.ErrArg)
	}
	for _, vars := range []int{math.MinInt, -1, 7, math.MaxInt} {
		checkFromRegex(t, sample{s.Regex, s.text, vars}, 0, api.DFA{}, api.ErrVars)
		checkFromRegex(t, sample{nil, "", vars}, 4096, api.DFA{}, api.ErrVars)
	}
	checkFromRegex(t, sample{s.Regex, s.text, 0}, 4096, api.DFA{}, api.ErrVars)
	checkFromRegex(t, sample{nil, "", 1}, 0, api.DFA{}, api.ErrShort)
	checkFromRegex(t, sample{make(api.Regex, 65), "", 1}, 0, api.DFA{}, api.ErrLong)
	checkFromRegex(t, sample{api.Regex{{Op: 11}}, "", 1}, 0, api.DFA{}, api.ErrKind)
	checkFromRegex(t, sample{api.Regex{{Op: api.RxLetter, Pos: 1, Neg: 1}}, "", 1}, 0, api.DFA{}, api.ErrForm)
	checkFromRegex(t, sample{api.Regex{{Op: api.RxEmpty}, {Op: api.RxStar, A: 1}}, "", 1}, 0, api.DFA{}, api.ErrState)
	looks := api.Regex{{Op: api.RxEmpty}, {Op: api.RxAhead}, {Op: api.RxStar, A: 1}}
	checkFromRegex(t, sample{looks, "", 1}, 0, api.DFA{}, api.ErrForm)
}

func TestErrorsOfAccepts(t *testing.T) {
	s := parsed(t, "[a]", 1)
	long := slices.Repeat([]uint8{2}, 65)
	checkAccepts(t, s, 3, long, false, api.ErrLong)
	checkAccepts(t, s, 3, long[:64], false, api.ErrArg)
	checkAccepts(t, s, 3, []uint8{0, 0, 2}, false, api.ErrArg)
	checkAccepts(t, s, 2, long, false, api.ErrBudget)
	checkAccepts(t, s, 0, long, false, api.ErrArg)
	checkAccepts(t, sample{nil, "", 1}, 0, long, false, api.ErrShort)
	checkAccepts(t, s, 3, []uint8{1}, true, api.OK)
	checkAccepts(t, s, 3, make([]uint8, 64), false, api.OK)
	checkAccepts(t, parsed(t, strings.Repeat("(~", 3)+"[*]"+strings.Repeat(")", 3), 0), 4, nil, true, api.OK)
}
