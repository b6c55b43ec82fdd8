package compile_test

import (
	"slices"
	"testing"

	"sentinel/api"
	"sentinel/boolean"
	"sentinel/compile"
	"sentinel/internal/dfatest"
	"sentinel/minimal"
	"sentinel/nfa"
	"sentinel/regex"
	"sentinel/subset"
)

// P10.3

func TestAutomataAndMatches(t *testing.T) {
	draw := choice{111}
	accepted, all := 0, 0
	for _, s := range draw.rows(400) {
		d, is := compiled(t, s)
		if !is {
			continue
		}
		for range 30 {
			w := draw.Word(draw.Below(14), s.vars)
			is, e := subset.Accepts(d, w)
			if want := s.accepts(t, w); e != api.OK || is != want {
				t.Errorf("the automaton of %q accepts %d: %t, %d, but the expression: %t", s.text, w, is, e, want)
			}
			all++
			if is {
				accepted++
			}
		}
	}
	if accepted < all/10 || accepted > all-all/10 {
		t.Errorf("%d of %d words are accepted", accepted, all)
	}
}

// P10.4

// joined returns the expression of an operator with the expressions of its children as operands.
func joined(t *testing.T, op uint8, a, b sample) sample {
	t.Helper()
	signs := map[uint8]string{api.RxCat: ".", api.RxAlt: "|", api.RxAnd: "&"}
	return parsed(t, "("+a.text+signs[op]+b.text+")", a.vars)
}

// checkCombined checks that the automaton of an expression is what an operation makes of those of the children.
func checkCombined(t *testing.T, s sample, want api.DFA, e api.Errno) {
	t.Helper()
	if d, is := compiled(t, s); is && (e != api.OK || !dfatest.Same(d, want)) {
		t.Errorf("FromRegex(%q, %d) = %v, but the operation on its children returns %v, %d", s.text, s.vars, d, want, e)
	}
}

func TestOperatorsAreOperations(t *testing.T) {
	draw := choice{112}
	for k := range 700 {
		vars := k % 4
		a := parsed(t, draw.text(1+draw.Below(12), vars, false), vars)
		b := parsed(t, draw.text(1+draw.Below(12), vars, false), vars)
		of, ofA := compiled(t, a)
		with, ofB := compiled(t, b)
		if !ofA || !ofB {
			continue
		}
		or, e := boolean.Or(of, with)
		checkCombined(t, joined(t, api.RxAlt, a, b), or, e)
		and, e := boolean.And(of, with)
		checkCombined(t, joined(t, api.RxAnd, a, b), and, e)
		not, e := boolean.Not(of)
		checkCombined(t, parsed(t, "(~"+a.text+")", vars), not, e)
	}
}

// The law for alternatives also holds if they look around.
func TestAlternativesOfLookArounds(t *testing.T) {
	draw := choice{113}
	l := draw.rows(300)
	for i, a := range l {
		b := l[(i+1)%len(l)]
		if a.vars != b.vars || len(a.Regex)+len(b.Regex) >= 64 {
			continue
		}
		of, ofA := compiled(t, a)
		with, ofB := compiled(t, b)
		if ofA && ofB {
			or, e := boolean.Or(of, with)
			checkCombined(t, joined(t, api.RxAlt, a, b), or, e)
		}
	}
}

// reversed returns the expression for the reversed words.
func reversed(t *testing.T, s sample) sample {
	t.Helper()
	e, fault := regex.Reverse(s.Regex, s.vars)
	text, other := regex.Format(e, s.vars)
	if fault != api.OK || other != api.OK {
		t.Fatalf("Reverse(%q, %d) returned the error %d", s.text, s.vars, fault)
	}
	return sample{e, text, s.vars}
}

func TestReversedExpressions(t *testing.T) {
	draw := choice{114}
	compared := 0
	for _, s := range samples(t) {
		r := reversed(t, s)
		d, is := compiled(t, s)
		back, isBack := compiled(t, r)
		if !is || !isBack {
			continue
		}
		for range 6 {
			w := draw.Word(draw.Below(14), s.vars)
			v := slices.Clone(w)
			slices.Reverse(v)
			if d.Final[dfatest.EndOf(d, 0, w)] != back.Final[dfatest.EndOf(back, 0, v)] {
				t.Errorf("the automaton of %q and that of the reversed expression do not agree on %d", s.text, w)
			}
		}
		if n, e := subset.ToNFA(d); e == api.OK {
			compared++
			n, _ = nfa.Reverse(n)
			want, _, _ := subset.Determinize(n, 4096)
			want, e = minimal.Minimize(want)
			checkCombined(t, r, want, e)
		}
	}
	if compared < 300 {
		t.Errorf("only %d automata have been reversed", compared)
	}
}

// Expressions with the same words have the same automaton.
func TestLawsOfExpressions(t *testing.T) {
	draw := choice{115}
	for k := range 300 {
		vars := k % 3
		a, b, c := draw.text(1+draw.Below(6), vars, false), draw.text(1+draw.Below(6), vars, false), draw.text(1+draw.Below(6), vars, false)
		for _, x := range [][2]string{
			{"((" + a + "." + b + ")." + c + ")", "(" + a + ".(" + b + "." + c + "))"},
			{"(" + a + ".(" + b + "|" + c + "))", "((" + a + "." + b + ")|(" + a + "." + c + "))"},
			{"((" + a + "|" + b + ")." + c + ")", "((" + a + "." + c + ")|(" + b + "." + c + "))"},
			{"(" + a + "*)", "(1|(" + a + ".(" + a + "*)))"},
			{"((" + a + "*)*)", "(" + a + "*)"},
			{"((" + a + "|" + b + ")*)", "((" + a + "*).((" + b + ".(" + a + "*))*))"},
			{"(" + a + ".1)", a},
			{"(1." + a + ")", a},
			{"(" + a + ".0)", "0"},
			{"(" + a + "&" + b + ")", "(~((~" + a + ")|(~" + b + ")))"},
			{"((>" + a + ")." + b + ")", "((" + a + ".([*]*))&" + b + ")"},
			{"(" + b + ".(<" + a + "))", "((([*]*)." + a + ")&" + b + ")"},
			{"((>" + a + ").((>" + b + ")." + c + "))", "((>((" + a + ".([*]*))&(" + b + ".([*]*))))." + c + ")"},
			{"(" + a + ".((>" + b + ")." + c + "))", "(" + a + ".((" + b + ".([*]*))&" + c + "))"},
			{"((" + a + ".(<" + b + "))." + c + ")", "(((([*]*)." + b + ")&" + a + ")." + c + ")"},
		} {
			left, right := parsed(t, x[0], vars), parsed(t, x[1], vars)
			d, isLeft := compiled(t, left)
			r, isRight := compiled(t, right)
			if isLeft && isRight && !dfatest.Same(d, r) {
				t.Errorf("the automata of %q and %q over %d variables are %v and %v", x[0], x[1], vars, d, r)
			}
		}
	}
}

// P10.5

func TestEliminationExpressionsHaveTheirAutomata(t *testing.T) {
	compared, refused := 0, 0
	for _, d := range automata() {
		e, fault := compile.ToRegex(d)
		if fault != api.OK {
			continue
		}
		m, _ := minimal.Minimize(d)
		text, _ := regex.Format(e, d.Vars)
		if r, is := compiled(t, sample{e, text, d.Vars}); is && !dfatest.Same(r, m) {
			t.Errorf("the automaton of %q is %v, but it comes from %v", text, r, m)
		} else if !is {
			refused++
		}
		if len(e) > 5 {
			compared++
		}
	}
	if compared < 200 || refused > 5 {
		t.Errorf("%d automata have been compared, and %d cannot be computed", compared, refused)
	}
}

func TestEliminationExpressionsOfCompiledOnes(t *testing.T) {
	compared := 0
	for _, s := range samples(t) {
		d, is := compiled(t, s)
		if !is {
			continue
		}
		e, fault := compile.ToRegex(d)
		if fault != api.OK {
			continue
		}
		text, _ := regex.Format(e, s.vars)
		checkCombined(t, sample{e, text, s.vars}, d, api.OK)
		if !(sample{e, text, s.vars}).plain() || slices.ContainsFunc(e, func(p api.Piece) bool { return p.Op == api.RxAnd || p.Op == api.RxNot }) {
			t.Errorf("the elimination expression of %q is %q", s.text, text)
		}
		compared++
	}
	if compared < 100 {
		t.Errorf("only %d expressions have been compared", compared)
	}
}
