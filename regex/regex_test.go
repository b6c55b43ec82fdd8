package regex_test

import (
	"math"
	"slices"
	"strings"
	"testing"

	"sentinel/api"
	"sentinel/regex"
)

// chain returns the pieces of a leaf below n unary operators.
func chain(n int, op uint8, below api.Piece) api.Regex {
	e := api.Regex{below}
	for i := range n {
		e = append(e, api.Piece{Op: op, A: i})
	}
	return e
}

// checkCheck checks what Check returns for an expression.
func checkCheck(t *testing.T, e api.Regex, vars int, want api.Errno) {
	t.Helper()
	if fault := regex.Check(e, vars); fault != want {
		t.Errorf("Check(%v, %d) = %d, want %d", e, vars, fault, want)
	}
}

// P4.1

func TestCheckOfExpressions(t *testing.T) {
	for _, s := range samples() {
		e := s.pieces()
		for vars := range 7 {
			want := faultOf(e, vars)
			if vars == s.vars {
				want = api.OK
			}
			checkCheck(t, e, vars, want)
		}
	}
}

func TestCheckOfVariablesAndLength(t *testing.T) {
	for _, vars := range noNumbersOfVars() {
		checkCheck(t, nil, vars, api.ErrVars)
		checkCheck(t, api.Regex{{Op: 11, A: -1}}, vars, api.ErrVars)
		checkCheck(t, chain(64, api.RxNot, api.Piece{Op: 77}), vars, api.ErrVars)
		checkCheck(t, api.Regex{{Op: api.RxEmpty}}, vars, api.ErrVars)
	}
	for vars := range 7 {
		checkCheck(t, nil, vars, api.ErrShort)
		checkCheck(t, api.Regex{}, vars, api.ErrShort)
		checkCheck(t, api.Regex{{Op: api.RxEmpty}}, vars, api.OK)
		checkCheck(t, chain(63, api.RxNot, api.Piece{Op: api.RxNone}), vars, api.OK)
		checkCheck(t, chain(64, api.RxNot, api.Piece{Op: api.RxNone}), vars, api.ErrLong)
		checkCheck(t, chain(64, api.RxNot, api.Piece{Op: 77}), vars, api.ErrLong)
		checkCheck(t, make(api.Regex, 65), vars, api.ErrLong)
		checkCheck(t, make(api.Regex, 64), vars, api.ErrKind)
		checkCheck(t, make(api.Regex, 5000), vars, api.ErrLong)
	}
}

func TestCheckOfOnePiece(t *testing.T) {
	numbers := []int{math.MinInt, -2, -1, 0, 1, math.MaxInt}
	for op := range 256 {
		for _, pos := range []uint8{0, 1, 3, 64, 255} {
			for _, neg := range []uint8{0, 1, 2, 128} {
				for _, a := range numbers {
					for _, b := range numbers {
						e := api.Regex{{Op: uint8(op), Pos: pos, Neg: neg, A: a, B: b}}
						checkCheck(t, e, 1, faultOf(e, 1))
					}
				}
			}
		}
	}
}

func TestCheckOfShortSequences(t *testing.T) {
	var pieces []api.Piece
	for op := range uint8(12) {
		for a := -1; a < 3; a++ {
			for b := -1; b < 3; b++ {
				pieces = append(pieces, api.Piece{Op: op, A: a, B: b})
			}
		}
	}
	leaves := []api.Piece{{Op: api.RxNone}, {Op: api.RxLetter, Pos: 1}, {Op: api.RxLetter, Pos: 2}, {Op: api.RxLetter, Pos: 1, Neg: 1}}
	for _, p := range append(leaves, pieces...) {
		for _, q := range append(leaves, pieces...) {
			e := api.Regex{p, q}
			checkCheck(t, e, 1, faultOf(e, 1))
			if faultOf(e[:1], 1) != api.OK {
				continue
			}
			for _, r := range pieces {
				e := api.Regex{p, q, r}
				checkCheck(t, e, 1, faultOf(e, 1))
			}
		}
	}
}

// Each field of each piece is replaced in turn.
func TestCheckOfChangedExpressions(t *testing.T) {
	draw := choice(41)
	for _, s := range samples() {
		e := s.pieces()
		if len(e) < 4 && draw.below(9) > 0 {
			continue
		}
		for i := range e {
			p := e[i]
			for range 3 {
				for k, field := range []*int{&e[i].A, &e[i].B} {
					*field = []int{-1, 0, i - 1, i, len(e) - 1, draw.below(len(e)), []int{p.A, p.B}[k] + 1, []int{p.A, p.B}[k] - 1}[draw.below(8)]
					checkCheck(t, e, s.vars, faultOf(e, s.vars))
					e[i] = p
				}
				e[i].Op = uint8(draw.below(12))
				checkCheck(t, e, s.vars, faultOf(e, s.vars))
				e[i] = p
				e[i].Pos = uint8(draw.below(256)) >> draw.below(8)
				checkCheck(t, e, s.vars, faultOf(e, s.vars))
				e[i].Neg = uint8(draw.below(256)) >> draw.below(8)
				checkCheck(t, e, s.vars, faultOf(e, s.vars))
				e[i] = p
			}
		}
	}
}

func TestCheckOfParts(t *testing.T) {
	for _, s := range samples() {
		e := s.pieces()
		if len(e) > 20 {
			continue
		}
		for i := range len(e) + 1 {
			for k := range i + 1 {
				checkCheck(t, e[k:i], s.vars, faultOf(e[k:i], s.vars))
			}
			doubled := slices.Insert(slices.Clone(e), i, e[len(e)/2])
			checkCheck(t, doubled, s.vars, faultOf(doubled, s.vars))
		}
	}
}

// The cases that the table of the errors names, each with the errors that come after it, too.
func TestCheckOfExamples(t *testing.T) {
	none, a := api.Piece{Op: api.RxNone}, api.Piece{Op: api.RxLetter, Pos: 1}
	star, ahead := api.Piece{Op: api.RxStar}, api.Piece{Op: api.RxAhead}
	cat := func(a, b int) api.Piece { return api.Piece{Op: api.RxCat, A: a, B: b} }
	for _, x := range []struct {
		e    api.Regex
		want api.Errno
	}{
		{api.Regex{{Op: 0}}, api.ErrKind},
		{api.Regex{{Op: 11, Pos: 1, A: -1}}, api.ErrKind},
		{api.Regex{none, {Op: 11}}, api.ErrKind},
		{api.Regex{{Op: api.RxNone, Neg: 1}, {Op: 11}}, api.ErrForm},
		{api.Regex{{Op: api.RxEmpty, A: 1}}, api.ErrForm},
		{api.Regex{{Op: api.RxLetter, Pos: 2, B: 1}}, api.ErrForm},
		{api.Regex{{Op: api.RxLetter, Pos: 2, Neg: 2}}, api.ErrVars},
		{api.Regex{{Op: api.RxLetter, Pos: 1, Neg: 1}}, api.ErrForm},
		{api.Regex{{Op: api.RxLetter, Pos: 1, Neg: 1}, {Op: 11}}, api.ErrForm},
		{api.Regex{{Op: api.RxStar, A: -1, B: 1}}, api.ErrForm},
		{api.Regex{{Op: api.RxStar, A: -1, Pos: 1}}, api.ErrForm},
		{api.Regex{{Op: api.RxStar, A: -1}}, api.ErrState},
		{api.Regex{star}, api.ErrState},
		{api.Regex{none, star}, api.OK},
		{api.Regex{none, a, star}, api.ErrState},
		{api.Regex{none, a, {Op: api.RxStar, A: 1}}, api.ErrForm},
		{api.Regex{none, a, {Op: api.RxStar, A: 2}}, api.ErrState},
		{api.Regex{cat(-1, -1)}, api.ErrState},
		{api.Regex{cat(-2, -1)}, api.ErrState},
		{api.Regex{none, cat(0, 0)}, api.ErrState},
		{api.Regex{none, cat(-1, 0)}, api.ErrState},
		{api.Regex{none, star, cat(-1, 1)}, api.ErrState},
		{api.Regex{none, star, cat(0, 1)}, api.ErrState},
		{api.Regex{none, a, cat(0, 1)}, api.OK},
		{api.Regex{none, a, cat(1, 0)}, api.ErrState},
		{api.Regex{none, a, cat(1, 1)}, api.ErrState},
		{api.Regex{none, a, cat(0, 0)}, api.ErrState},
		{api.Regex{none, a, a, cat(0, 2)}, api.ErrState},
		{api.Regex{none, a, a, cat(1, 2)}, api.ErrForm},
		{api.Regex{none, a, a, cat(1, 2), cat(0, 3)}, api.OK},
		{api.Regex{none, a, a, cat(1, 2), cat(2, 3)}, api.ErrState},
		{api.Regex{none, a}, api.ErrForm},
		{api.Regex{none, ahead, {Op: api.RxStar, A: 1}, {Op: 11}}, api.ErrKind},
		{api.Regex{none, ahead, {Op: api.RxStar, A: 1}}, api.ErrForm},
		{api.Regex{none, ahead, none}, api.ErrForm},
	} {
		checkCheck(t, x.e, 1, x.want)
		if fault := faultOf(x.e, 1); fault != x.want {
			t.Errorf("the reference says %d of %v, want %d", fault, x.e, x.want)
		}
	}
}

func TestLookAroundsAreBelowConcatenationsAndAlternationsOnly(t *testing.T) {
	for _, look := range []uint8{api.RxAhead, api.RxBehind} {
		l := func() *tree { return node(look, letter(1, 0)) }
		for _, x := range []struct {
			e    *tree
			want api.Errno
		}{
			{l(), api.OK},
			{node(api.RxCat, l(), l()), api.OK},
			{node(api.RxAlt, l(), l()), api.OK},
			{node(api.RxAlt, leaf(1), node(api.RxCat, node(api.RxAlt, l(), leaf(2)), l())), api.OK},
			{node(api.RxAnd, l(), leaf(1)), api.ErrForm},
			{node(api.RxAnd, leaf(1), l()), api.ErrForm},
			{node(api.RxNot, l()), api.ErrForm},
			{node(api.RxStar, l()), api.ErrForm},
			{node(api.RxAhead, l()), api.ErrForm},
			{node(api.RxBehind, l()), api.ErrForm},
			{node(api.RxAhead, node(api.RxCat, leaf(2), l())), api.ErrForm},
			{node(api.RxStar, node(api.RxCat, node(api.RxAlt, l(), leaf(1)), leaf(2))), api.ErrForm},
			{node(api.RxAlt, l(), node(api.RxNot, node(api.RxAlt, leaf(1), l()))), api.ErrForm},
			{node(look, node(api.RxStar, node(api.RxNot, node(api.RxAnd, leaf(1), leaf(2))))), api.OK},
		} {
			checkCheck(t, x.e.pieces(), 1, x.want)
			if e, fault := regex.Parse(x.e.text(), 1); fault != x.want || fault != api.OK && len(e) > 0 {
				t.Errorf("Parse(%q, 1) = %v, %d, want the error %d", x.e.text(), e, fault, x.want)
			}
		}
	}
}

func TestPlain(t *testing.T) {
	plain := 0
	for _, s := range samples() {
		is, fault := regex.Plain(s.pieces(), s.vars)
		if is != s.plain() || fault != api.OK {
			t.Errorf("Plain(%q) = %t, %d, want %t", s.text(), is, fault, s.plain())
		}
		if is {
			plain++
		}
	}
	if n := len(samples()); plain < n/9 || n-plain < n/9 {
		t.Errorf("%d of %d samples are plain", plain, n)
	}
}

// P4.2

func TestFormat(t *testing.T) {
	for _, s := range samples() {
		if text, fault := regex.Format(s.pieces(), s.vars); fault != api.OK || text != s.text() {
			t.Errorf("Format(%v, %d) = %q, %d, want %q", s.pieces(), s.vars, text, fault, s.text())
		}
	}
}

func TestFormatOfExamples(t *testing.T) {
	a, b := api.Piece{Op: api.RxLetter, Pos: 1}, api.Piece{Op: api.RxLetter, Pos: 2, Neg: 1}
	for _, x := range []struct {
		want string
		e    api.Regex
	}{
		{"0", api.Regex{{Op: api.RxNone}}},
		{"1", api.Regex{{Op: api.RxEmpty}}},
		{"[*]", api.Regex{{Op: api.RxLetter}}},
		{"[!ab]", api.Regex{b}},
		{"([a].[!ab])", api.Regex{a, b, {Op: api.RxCat, A: 0, B: 1}}},
		{"([!ab]|[a])", api.Regex{b, a, {Op: api.RxAlt, A: 0, B: 1}}},
		{"([a]&[!ab])", api.Regex{a, b, {Op: api.RxAnd, A: 0, B: 1}}},
		{"(~[a])", api.Regex{a, {Op: api.RxNot}}},
		{"([a]*)", api.Regex{a, {Op: api.RxStar}}},
		{"(>[a])", api.Regex{a, {Op: api.RxAhead}}},
		{"(<[a])", api.Regex{a, {Op: api.RxBehind}}},
	} {
		if text, fault := regex.Format(x.e, 2); fault != api.OK || text != x.want {
			t.Errorf("Format(%v, 2) = %q, %d, want %q", x.e, text, fault, x.want)
		}
		if e, fault := regex.Parse(x.want, 2); fault != api.OK || !slices.Equal(e, x.e) {
			t.Errorf("Parse(%q, 2) = %v, %d, want %v", x.want, e, fault, x.e)
		}
	}
}

// The example of the chapter.
func TestParseReturnsCanonicalPostorder(t *testing.T) {
	e, fault := regex.Parse("((([*]*).[a]).[*])", 1)
	want := api.Regex{{Op: api.RxLetter}, {Op: api.RxStar}, {Op: api.RxLetter, Pos: 1}, {Op: api.RxCat, A: 1, B: 2}, {Op: api.RxLetter}, {Op: api.RxCat, A: 3, B: 4}}
	if fault != api.OK || !slices.Equal(e, want) {
		t.Errorf("Parse = %v, %d, want %v", e, fault, want)
	}
	e, fault = regex.Parse("(1.([!a]|(>0)))", 1)
	want = api.Regex{{Op: api.RxEmpty}, {Op: api.RxLetter, Neg: 1}, {Op: api.RxNone}, {Op: api.RxAhead, A: 2}, {Op: api.RxAlt, A: 1, B: 3}, {Op: api.RxCat, A: 0, B: 4}}
	if fault != api.OK || !slices.Equal(e, want) {
		t.Errorf("Parse = %v, %d, want %v", e, fault, want)
	}
}

// checkParse checks what Parse returns for a text.
func checkParse(t *testing.T, g grammar, s string, vars int) {
	t.Helper()
	want, fault := g.parsed(s, vars)
	if e, f := regex.Parse(s, vars); f != fault || !slices.Equal(e, want) {
		t.Fatalf("Parse(%q, %d) = %v, %d, want %v, %d", s, vars, e, f, want, fault)
	}
}

func TestParseErrors(t *testing.T) {
	g := newGrammar()
	for s, want := range map[string]api.Errno{
		"": api.ErrShort, "(": api.ErrShort, "((((": api.ErrShort, "(~": api.ErrShort, "(>0": api.ErrShort,
		"(0": api.ErrShort, "(0.": api.ErrShort, "(0.1": api.ErrShort, "(0*": api.ErrShort,
		"[": api.ErrShort, "[a": api.ErrShort, "[*": api.ErrShort, "[!": api.ErrShort, "[a!": api.ErrShort, "[abcdef": api.ErrShort, "([a!b].[e!": api.ErrShort, "[b": api.ErrShort,

		")": api.ErrForm, "*": api.ErrForm, "a": api.ErrForm, "2": api.ErrForm, " 0": api.ErrForm, "~0": api.ErrForm, "\x00": api.ErrForm, "\xff": api.ErrForm,
		"()": api.ErrForm, "(0)": api.ErrForm, "(0+1)": api.ErrForm, "(0 .1)": api.ErrForm, "(*0)": api.ErrForm, "(.": api.ErrForm,
		"(0.1.0)": api.ErrForm, "(0**)": api.ErrForm, "(~0*)": api.ErrForm, "(~~0)": api.ErrForm, "(0*1)": api.ErrForm, "(0~)": api.ErrForm, "(0>1)": api.ErrForm, "(0.)": api.ErrForm, "(~)": api.ErrForm,
		"[]": api.ErrForm, "[ba": api.ErrForm, "[aa": api.ErrForm, "[a!a": api.ErrForm, "[!!": api.ErrForm, "[!]": api.ErrForm, "[a!]": api.ErrForm, "[*a": api.ErrForm, "[**": api.ErrForm, "[*!": api.ErrForm, "[a*": api.ErrForm, "[!*": api.ErrForm,
		"[g": api.ErrForm, "[A": api.ErrForm, "[f!": api.ErrForm, "[!f!": api.ErrForm, "[abcdef!": api.ErrForm, "[[": api.ErrForm, "[a)": api.ErrForm, "[ ": api.ErrForm,

		"01": api.ErrMore, "0)": api.ErrMore, "0 ": api.ErrMore, "1*": api.ErrMore, "[a][": api.ErrMore, "(0*))": api.ErrMore, "(0.1)\xff": api.ErrMore, "[f]!": api.ErrMore, "((0.1)*)(": api.ErrMore,

		"[b]": api.ErrVars, "[!f]": api.ErrVars, "((>[b])*)": api.ErrVars, "(((>0)*).[b])": api.ErrVars, "[b]0": api.ErrMore, "([b].": api.ErrShort, "([b]!": api.ErrForm,
		"((>0)*)": api.ErrForm, "(((>0)*).1)": api.ErrForm, "((>0)*)0": api.ErrMore, "((>0)*": api.ErrShort, "(~(<0)*": api.ErrForm, "(>(<1))": api.ErrForm, "((<1)&0)": api.ErrForm,
	} {
		if e, fault := regex.Parse(s, 1); fault != want || len(e) > 0 {
			t.Errorf("Parse(%q, 1) = %v, %d, want the error %d", s, e, fault, want)
		}
		checkParse(t, g, s, 1)
	}
}

func TestParseOfVariablesAndLength(t *testing.T) {
	g := newGrammar()
	deep := strings.Repeat("(~", 1365) + "1" + strings.Repeat(")", 1365)
	for _, s := range []string{
		"", "0", "[f]", "[g]", "((>[f])*)",
		deep, deep[:4095], deep + "1", deep + "((",
		strings.Repeat("(", 4096), strings.Repeat("(", 4097), strings.Repeat("x", 4096), strings.Repeat("x", 4097), strings.Repeat("0", 4096),
		strings.Repeat("[a!", 2000), strings.Repeat("!", 5000),
		node(api.RxStar, leaf(1)).text() + strings.Repeat(" ", 4092), node(api.RxStar, leaf(1)).text() + strings.Repeat(" ", 4093),
	} {
		for vars := range 7 {
			checkParse(t, g, s, vars)
		}
		for _, vars := range noNumbersOfVars() {
			checkParse(t, g, s, vars)
		}
	}
	for s, want := range map[string]api.Errno{
		deep: api.ErrLong, deep[:4095]: api.ErrShort, deep + "1": api.ErrLong, "1" + strings.Repeat("1", 4095): api.ErrMore,
		strings.Repeat("(", 4096): api.ErrShort, strings.Repeat("(", 4097): api.ErrLong, strings.Repeat("x", 4097): api.ErrLong,
	} {
		if e, fault := regex.Parse(s, 6); fault != want || len(e) > 0 {
			t.Errorf("Parse of %d bytes = %v, %d, want the error %d", len(s), e, fault, want)
		}
	}
}

// An expression of more than api.MaxNodes pieces is too long whatever its pieces are.
func TestParseOfTheGreatestExpressions(t *testing.T) {
	g := newGrammar()
	draw := choice(42)
	for range 50 {
		for n := 60; n < 70; n++ {
			s := draw.tree(n, 6, true).text()
			checkParse(t, g, s, 6)
			checkParse(t, g, s, draw.below(6))
			want := api.OK
			if n > 64 {
				want = api.ErrLong
			}
			if e, fault := regex.Parse(s, 6); fault != want || fault != api.OK && len(e) > 0 {
				t.Errorf("Parse(%q, 6) = %v, %d, want the error %d", s, e, fault, want)
			}
		}
	}
	s := "(" + draw.tree(66, 6, false).text() + ".([f].((>0)*)))"
	if e, fault := regex.Parse(s, 1); fault != api.ErrLong || len(e) > 0 {
		t.Errorf("Parse(%q, 1) = %v, %d, want the error %d", s, e, fault, api.ErrLong)
	}
}

// Any byte is tried after the beginnings of texts, so that each error has its first byte.
func TestParseByteByByte(t *testing.T) {
	g := newGrammar()
	beginnings := []string{""}
	for range 5 {
		var longer []string
		for _, s := range beginnings {
			for x := range 256 {
				more := s + string([]byte{byte(x)})
				checkParse(t, g, more, 1)
				fault := g.fault(more)
				if fault == api.OK || fault == api.ErrShort && !strings.ContainsAny(more, "cde") {
					longer = append(longer, more)
				}
			}
		}
		beginnings = longer
	}
}

func TestParseOfCubes(t *testing.T) {
	g := newGrammar()
	for literals := range g.beginnings {
		checkParse(t, g, "["+literals, 6)
		for x := range 256 {
			s := "[" + literals + string([]byte{byte(x)})
			checkParse(t, g, s, 6)
			checkParse(t, g, s, 3)
		}
	}
}

func TestParseOfChangedTexts(t *testing.T) {
	g := newGrammar()
	draw := choice(43)
	const signs = "01[](.|&~*<>)!abfg *.)0(["
	for range 20000 {
		vars := draw.below(7)
		s := draw.tree(1+draw.below(20), vars, draw.below(4) > 0).text()
		checkParse(t, g, s, vars)
		for range 1 + draw.below(3) {
			at := draw.below(len(s) + 1)
			rest := s[min(len(s), at+draw.below(2)):]
			switch draw.below(3) {
			case 0:
				s = s[:at] + rest
			case 1:
				s = s[:at] + string(signs[draw.below(len(signs))]) + rest
			case 2:
				s = s[:at]
			}
		}
		checkParse(t, g, s, vars)
	}
}

// P4.3

func TestBlock(t *testing.T) {
	for _, s := range samples() {
		e := s.pieces()
		for i, b := range s.blocks() {
			if block, fault := regex.Block(e, s.vars, i); fault != api.OK || !slices.Equal(block, b.pieces()) {
				t.Errorf("Block(%q, %d, %d) = %v, %d, want %q", s.text(), s.vars, i, block, fault, b.text())
			}
		}
		for _, i := range []int{math.MinInt, -1, len(e), len(e) + 1, 64, 1 << 32, math.MaxInt} {
			if block, fault := regex.Block(e, s.vars, i); fault != api.ErrState || len(block) > 0 {
				t.Errorf("Block(%q, %d, %d) = %v, %d, want the error %d", s.text(), s.vars, i, block, fault, api.ErrState)
			}
		}
	}
}

func TestReverse(t *testing.T) {
	for _, s := range samples() {
		if e, fault := regex.Reverse(s.pieces(), s.vars); fault != api.OK || !slices.Equal(e, s.reversed().pieces()) {
			t.Errorf("Reverse(%q) = %v, %d, want %q", s.text(), e, fault, s.reversed().text())
		}
	}
	for s, want := range map[string]string{
		"([a].(>[*]))":               "((<[*]).[a])",
		"(([a].[b]).([!a]*))":        "(([!a]*).([b].[a]))",
		"(([a].0)|(1.[b]))":          "((0.[a])|([b].1))",
		"((~([a].0))&1)":             "((~(0.[a]))&1)",
		"((<([a].0))|(>(1.([b]*))))": "((>(0.[a]))|(<(([b]*).1)))",
	} {
		e, a := regex.Parse(s, 2)
		r, b := regex.Reverse(e, 2)
		text, c := regex.Format(r, 2)
		if a != api.OK || b != api.OK || c != api.OK || text != want {
			t.Errorf("Reverse(%q) = %q, %d %d %d, want %q", s, text, a, b, c, want)
		}
	}
}
