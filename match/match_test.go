package match_test

import (
	"regexp"
	"slices"
	"strings"
	"testing"

	"sentinel/api"
	"sentinel/match"
	"sentinel/regex"
)

// checkTable checks Table for a word on which the matches from each position end in the given sets.
func checkTable(t *testing.T, e api.Regex, vars int, w []uint8, ends []set) {
	t.Helper()
	m, fault := match.Table(e, vars, w)
	if fault != api.OK || len(m) != len(w)+1 {
		t.Fatalf("Table(%v, %d, %d) has %d rows and the error %d", e, vars, w, len(m), fault)
	}
	for i, row := range m {
		if len(row) != len(w)+1 {
			t.Fatalf("row %d of Table(%v, %d, %d) has %d elements", i, e, vars, w, len(row))
		}
		for j, matches := range row {
			if matches != ends[i].has(j) {
				t.Errorf("Table(%v, %d, %d) is %t from %d to %d", e, vars, w, matches, i, j)
			}
		}
	}
}

// checkSpans checks Accepts and Spans for a word on which the matches from each position end in the given sets.
func checkSpans(t *testing.T, e api.Regex, vars int, w []uint8, ends []set) {
	t.Helper()
	var want [][2]int
	for i := range ends {
		for j := range ends {
			if ends[i].has(j) {
				want = append(want, [2]int{i, j})
			}
		}
	}
	if l, fault := match.Spans(e, vars, w); fault != api.OK || !slices.Equal(l, want) {
		t.Errorf("Spans(%v, %d, %d) = %v, %d, want %v", e, vars, w, l, fault, want)
	}
	is, fault := match.Accepts(e, vars, w)
	if fault != api.OK || is != ends[0].has(len(w)) {
		t.Errorf("Accepts(%v, %d, %d) = %t, %d", e, vars, w, is, fault)
	}
}

// P5.1

func TestMatches(t *testing.T) {
	some, accepted, all := 0, 0, 0
	for _, s := range samples() {
		e := parsed(t, s.text, s.vars)
		for _, w := range s.words {
			ends := s.ends(w)
			checkTable(t, e, s.vars, w, ends)
			checkSpans(t, e, s.vars, w, ends)
			all++
			if ends[0].has(len(w)) {
				accepted++
			}
			if slices.ContainsFunc(ends, func(s set) bool { return !s.isEmpty() }) {
				some++
			}
		}
	}
	if accepted < all/5 || some < all/2 || some > all-all/5 {
		t.Errorf("of %d words %d are accepted and %d have matches", all, accepted, some)
	}
}

func TestMatchesOfLongWords(t *testing.T) {
	draw := choice(51)
	for n := range 64 {
		s := draw.expression(n+1, 2, n%2 == 0)
		e := parsed(t, s.text, 2)
		for _, w := range [][]uint8{draw.word(63, 2), draw.word(64, 2), make([]uint8, 64)} {
			checkTable(t, e, 2, w, s.ends(w))
			checkSpans(t, e, 2, w, s.ends(w))
		}
	}
}

// spansOf returns the elements of Spans as pairs of digits.
func spansOf(t *testing.T, text string, w ...uint8) string {
	t.Helper()
	l, fault := match.Spans(parsed(t, text, 2), 2, w)
	if fault != api.OK {
		t.Errorf("Spans(%q, 2, %d) returned the error %d", text, w, fault)
	}
	var digits []string
	for _, s := range l {
		digits = append(digits, string([]byte{'0' + byte(s[0]), '0' + byte(s[1])}))
	}
	return strings.Join(digits, " ")
}

// The word is 1 2 3 0: a holds in its first and third letter, b in its second and third.
func TestMatchesOfEachOperator(t *testing.T) {
	for text, want := range map[string]string{
		"0":                        "",
		"1":                        "00 11 22 33 44",
		"[*]":                      "01 12 23 34",
		"[a]":                      "01 23",
		"[a!b]":                    "01",
		"[!a]":                     "12 34",
		"([a].[b])":                "02",
		"([b].[a])":                "13",
		"(1.[b])":                  "12 23",
		"([b].1)":                  "12 23",
		"([a].0)":                  "",
		"(([b]*).([a]*))":          "00 01 11 12 13 22 23 33 44",
		"([a]|([a].[*]))":          "01 02 23 24",
		"(([a]|[b])&[b])":          "12 23",
		"(([a]*)&([b]*))":          "00 11 22 23 33 44",
		"(~[a])":                   "00 02 03 04 11 12 13 14 22 24 33 34 44",
		"(~(~[a]))":                "01 23",
		"(~1)":                     "01 02 03 04 12 13 14 23 24 34",
		"(~0)":                     "00 01 02 03 04 11 12 13 14 22 23 24 33 34 44",
		"([b]*)":                   "00 11 12 13 22 23 33 44",
		"(([*].[*])*)":             "00 02 04 11 13 22 24 33 44",
		"((1|[b])*)":               "00 11 12 13 22 23 33 44",
		"(0*)":                     "00 11 22 33 44",
		"(1*)":                     "00 11 22 33 44",
		"((~[*])*)":                "00 02 03 04 11 13 14 22 24 33 44",
		"(>[b])":                   "11 22",
		"(>([b].[!b]))":            "22",
		"(>1)":                     "00 11 22 33 44",
		"(>0)":                     "",
		"(>(~([*]*)))":             "",
		"(>(~1))":                  "00 11 22 33",
		"(<[b])":                   "22 33",
		"(<([!b].[*]))":            "22",
		"(<(~1))":                  "11 22 33 44",
		"(<([a].[*]))":             "22 44",
		"(<1)":                     "00 11 22 33 44",
		"([*].(>[b]))":             "01 12",
		"((<[b]).[*])":             "23 34",
		"([a].(>[b]))":             "01",
		"((>[a]).[b])":             "23",
		"((>[a])|(<[a]))":          "00 11 22 33",
		"((<[a]).(>[b]))":          "11",
		"(((<[a])|[b]).[*])":       "12 13 24 34",
		"((<([a].[b])).([*]*))":    "22 23 24",
		"(([*]*).(>([a].[!a])))":   "00 02 12 22",
		"((>([*].[*])).(<([a]*)))": "00 11 22",
	} {
		if spans := spansOf(t, text, 1, 2, 3, 0); spans != want {
			t.Errorf("Spans of %s = %q, want %q", text, spans, want)
		}
	}
}

// The examples of the chapter.
func TestMatchesOfExamples(t *testing.T) {
	if spans := spansOf(t, "([a].(>[b]))", 1, 2); spans != "01" {
		t.Errorf("Spans of the first example = %q, want 01", spans)
	}
	if spans := spansOf(t, "[a]", 1, 0, 1); spans != "01 23" {
		t.Errorf("Spans of the second example = %q, want 01 23", spans)
	}
	for _, x := range []struct {
		text string
		w    []uint8
		want bool
	}{
		{"([a].(>[b]))", []uint8{1}, false},
		{"([a].(>[b]))", []uint8{1, 2}, false},
		{"([a]*)", []uint8{1, 1, 3}, true},
		{"([a]*)", []uint8{1, 2, 3}, false},
	} {
		if is, fault := match.Accepts(parsed(t, x.text, 2), 2, x.w); is != x.want || fault != api.OK {
			t.Errorf("Accepts(%q, 2, %d) = %t, %d, want %t", x.text, x.w, is, fault, x.want)
		}
	}
	e := parsed(t, "((>([*].[b])).([*]*))", 2)
	for _, w := range wordsOf(4, 2) {
		want := len(w) >= 2 && w[1]&2 == 2
		if is, fault := match.Accepts(e, 2, w); is != want || fault != api.OK {
			t.Errorf("Accepts of %d = %t, %d, want %t", w, is, fault, want)
		}
	}
}

// Package regexp knows neither intersections nor complements nor look-arounds, but the rest.
func TestAcceptsTheWordsOfTheStandardLibrary(t *testing.T) {
	compared := 0
	for _, s := range samples() {
		if s.standard == "" {
			continue
		}
		compared++
		r := regexp.MustCompile("^(?:" + s.standard + ")$")
		e := parsed(t, s.text, s.vars)
		for _, w := range s.words {
			var l []rune
			for _, x := range w {
				l = append(l, standardLetter(x))
			}
			if is, fault := match.Accepts(e, s.vars, w); fault != api.OK || is != r.MatchString(string(l)) {
				t.Errorf("Accepts(%q, %d, %d) = %t, %d", s.text, s.vars, w, is, fault)
			}
		}
	}
	if compared < 100 {
		t.Errorf("only %d expressions have been compared", compared)
	}
}

func TestMatchesWithoutLetters(t *testing.T) {
	for text, want := range map[string]bool{"0": false, "1": true, "[*]": false, "([*]*)": true, "(~1)": false, "(>1)": true, "(<[*])": false, "((>1).(<1))": true} {
		e := parsed(t, text, 0)
		for _, w := range [][]uint8{nil, {}} {
			var ends set
			if want {
				ends = ends.with(0)
			}
			checkTable(t, e, 0, w, []set{ends})
			checkSpans(t, e, 0, w, []set{ends})
		}
	}
}

// checkWordError checks that the functions on words return only an error.
func checkWordError(t *testing.T, e api.Regex, vars int, w []uint8, want api.Errno) {
	t.Helper()
	m, a := match.Table(e, vars, w)
	is, b := match.Accepts(e, vars, w)
	l, c := match.Spans(e, vars, w)
	if a != want || b != want || c != want {
		t.Errorf("the errors for %v over %d variables and %d letters are %d, %d and %d, want %d", e, vars, len(w), a, b, c, want)
	}
	if len(m) > 0 || is || len(l) > 0 {
		t.Errorf("with the error %d the results are %v, %t and %v", want, m, is, l)
	}
}

func TestErrorsOfWords(t *testing.T) {
	long := make([]uint8, 65)
	wrong := append([]uint8{255}, long...)
	for vars := range 7 {
		e := parsed(t, "(~0)", vars)
		beyond := 1 << vars
		for _, x := range []int{beyond, beyond + 1, 2*beyond - 1, 128, 255} {
			checkWordError(t, e, vars, []uint8{uint8(x)}, api.ErrArg)
			checkWordError(t, e, vars, []uint8{0, 0, uint8(x)}, api.ErrArg)
			checkWordError(t, e, vars, []uint8{uint8(x), 0, 0}, api.ErrArg)
			last := make([]uint8, 64)
			last[63] = uint8(x)
			checkWordError(t, e, vars, last, api.ErrArg)
		}
		checkWordError(t, e, vars, long, api.ErrLong)
		checkWordError(t, e, vars, make([]uint8, 5000), api.ErrLong)
		checkWordError(t, e, vars, wrong, api.ErrLong)
		greatest := slices.Repeat([]uint8{uint8(beyond - 1)}, 64)
		if is, fault := match.Accepts(e, vars, greatest); !is || fault != api.OK {
			t.Errorf("Accepts of a word of 64 letters %d = %t, %d", greatest[0], is, fault)
		}
	}
}

// invalid returns expressions with the error that regex.Check returns for them over one variable.
func invalid() map[api.Errno]api.Regex {
	return map[api.Errno]api.Regex{
		api.ErrShort: nil,
		api.ErrLong:  make(api.Regex, 65),
		api.ErrKind:  {{Op: api.RxEmpty}, {Op: 11}},
		api.ErrForm:  {{Op: api.RxEmpty}, {Op: api.RxAhead}, {Op: api.RxNot, A: 1}},
		api.ErrVars:  {{Op: api.RxLetter, Pos: 2}},
		api.ErrState: {{Op: api.RxStar}},
	}
}

func TestErrorsOfExpressionsComeFirst(t *testing.T) {
	for want, e := range invalid() {
		for _, w := range [][]uint8{nil, {0}, {255}, make([]uint8, 65)} {
			checkWordError(t, e, 1, w, want)
		}
		for _, x := range []uint8{0, 2, 255} {
			checkPlainErrors(t, e, 1, x, want, want)
		}
	}
	for _, vars := range noNumbersOfVars() {
		for _, e := range []api.Regex{nil, make(api.Regex, 65), parsed(t, "[f]", 6), parsed(t, "(>1)", 0)} {
			checkWordError(t, e, vars, nil, api.ErrVars)
			checkWordError(t, e, vars, make([]uint8, 65), api.ErrVars)
			checkPlainErrors(t, e, vars, 0, api.ErrVars, api.ErrVars)
			checkPlainErrors(t, e, vars, 255, api.ErrVars, api.ErrVars)
		}
	}
}

// P5.2

// checkPlainErrors checks that Nullable and Derive return only an error; without one Nullable is not checked.
func checkPlainErrors(t *testing.T, e api.Regex, vars int, x uint8, nullable, derive api.Errno) {
	t.Helper()
	is, a := match.Nullable(e, vars)
	if a != nullable || a != api.OK && is {
		t.Errorf("Nullable(%v, %d) = %t, %d, want the error %d", e, vars, is, a, nullable)
	}
	d, b := match.Derive(e, vars, x)
	if b != derive || len(d) > 0 {
		t.Errorf("Derive(%v, %d, %d) = %v, %d, want the error %d", e, vars, x, d, b, derive)
	}
}

func TestNullable(t *testing.T) {
	yes, all := 0, 0
	for _, s := range samples() {
		if !s.plain {
			continue
		}
		is, fault := match.Nullable(parsed(t, s.text, s.vars), s.vars)
		if is != s.empty || fault != api.OK {
			t.Errorf("Nullable(%q, %d) = %t, %d, want %t", s.text, s.vars, is, fault, s.empty)
		}
		all++
		if is {
			yes++
		}
	}
	if yes < all/4 || yes > all-all/4 {
		t.Errorf("%d of %d expressions are nullable", yes, all)
	}
}

func TestNullableOfEachOperator(t *testing.T) {
	for text, want := range map[string]bool{
		"0": false, "1": true, "[*]": false, "[a]": false,
		"(1.1)": true, "(1.[a])": false, "([a].1)": false, "(0.0)": false,
		"(1|1)": true, "(1|0)": true, "(0|1)": true, "(0|[*])": false,
		"(1&1)": true, "(1&0)": false, "(0&1)": false, "([*]&0)": false,
		"(~0)": true, "(~1)": false, "(~[a])": true, "(~(~1))": true,
		"(0*)": true, "(1*)": true, "([a]*)": true, "((~([a]*))*)": true,
	} {
		if is, fault := match.Nullable(parsed(t, text, 2), 2); is != want || fault != api.OK {
			t.Errorf("Nullable(%q, 2) = %t, %d, want %t", text, is, fault, want)
		}
	}
}

// checkDerive checks the derivative of a plain expression and returns it.
func checkDerive(t *testing.T, s *expression, vars int, x uint8) api.Regex {
	t.Helper()
	e := parsed(t, s.text, vars)
	want, expected := regex.Parse(s.derivative(x).text, vars)
	d, fault := match.Derive(e, vars, x)
	if fault != expected || !slices.Equal(d, want) {
		t.Fatalf("Derive(%q, %d, %d) = %v, %d, want %q, %d", s.text, vars, x, d, fault, s.derivative(x).text, expected)
	}
	return d
}

func TestDerive(t *testing.T) {
	draw := choice(52)
	long, all := 0, 0
	for _, s := range samples() {
		if !s.plain {
			continue
		}
		letters := []uint8{0, uint8(1<<s.vars - 1), uint8(draw.below(1 << s.vars))}
		for _, x := range letters {
			all++
			if len(checkDerive(t, s.expression, s.vars, x)) == 0 {
				long++
			}
		}
	}
	if long < 50 || long > all/2 {
		t.Errorf("%d of %d derivatives are too long", long, all)
	}
}

func TestDerivingRepeatedly(t *testing.T) {
	draw := choice(53)
	for range 500 {
		vars := draw.below(7)
		s := draw.expression(1+draw.below(12), vars, false)
		for s.pieces <= 64 {
			x := uint8(draw.below(1 << vars))
			if d := checkDerive(t, s, vars, x); len(d) == s.pieces {
				break
			}
			s = s.derivative(x)
		}
	}
}

func TestDeriveOfEachOperator(t *testing.T) {
	for _, x := range []struct {
		text string
		x    uint8
		want string
	}{
		{"0", 1, "0"},
		{"1", 1, "0"},
		{"[*]", 0, "1"},
		{"[a]", 3, "1"},
		{"[a]", 2, "0"},
		{"[a!b]", 1, "1"},
		{"[a!b]", 3, "0"},
		{"([a]|[b])", 1, "(1|0)"},
		{"([a]&[b])", 2, "(0&1)"},
		{"(~[a])", 1, "(~1)"},
		{"(~1)", 1, "(~0)"},
		{"([a]*)", 1, "(1.([a]*))"},
		{"([a]*)", 0, "(0.([a]*))"},
		{"(([a]*)*)", 1, "((1.([a]*)).(([a]*)*))"},
		{"([a].[b])", 1, "(1.[b])"},
		{"([a].[b])", 2, "(0.[b])"},
		{"(1.[b])", 2, "((0.[b])|1)"},
		{"(0.[b])", 2, "(0.[b])"},
		{"((~1).[b])", 2, "((~0).[b])"},
		{"((~[a]).([a]&([b]|1)))", 1, "(((~1).([a]&([b]|1)))|(1&(0|0)))"},
		{"(([a]*).(1.[b]))", 3, "(((1.([a]*)).(1.[b]))|((0.[b])|1))"},
		{"(([a].[b]).([b].[a]))", 3, "((1.[b]).([b].[a]))"},
		{"(([a].(~[b]))*)", 1, "((1.(~[b])).(([a].(~[b]))*))"},
	} {
		d, a := match.Derive(parsed(t, x.text, 2), 2, x.x)
		text, b := regex.Format(d, 2)
		if text != x.want || a != api.OK || b != api.OK {
			t.Errorf("Derive(%q, 2, %d) = %q, %d %d, want %q", x.text, x.x, text, a, b, x.want)
		}
	}
}

func TestErrorsOfPlainExpressions(t *testing.T) {
	for _, s := range samples() {
		if s.plain {
			continue
		}
		e := parsed(t, s.text, s.vars)
		for _, x := range []uint8{0, 1, 64, 255} {
			checkPlainErrors(t, e, s.vars, x, api.ErrKind, api.ErrKind)
		}
	}
	for vars := range 7 {
		beyond := 1 << vars
		for _, x := range []int{beyond, beyond + 1, 2*beyond - 1, 128, 255} {
			checkPlainErrors(t, parsed(t, "[*]", vars), vars, uint8(x), api.OK, api.ErrArg)
		}
		if d, fault := match.Derive(parsed(t, "[*]", vars), vars, uint8(beyond-1)); fault != api.OK || len(d) != 1 {
			t.Errorf("Derive([*], %d, %d) = %v, %d", vars, beyond-1, d, fault)
		}
	}
}

// chain returns an expression with the given number of pieces in addition to those of a.
func chain(n int, a *expression) *expression {
	for range n {
		a = not(a)
	}
	return a
}

func TestTheGreatestDerivatives(t *testing.T) {
	for _, x := range []struct {
		e    *expression
		want int // the number of pieces of the derivative
	}{
		{chain(63, letter(1, 0)), 64},
		{star(chain(30, letter(1, 0))), 64},
		{star(chain(31, letter(1, 0))), 66},
		{cat(chain(31, none()), star(chain(14, letter(1, 0)))), 82},
		{cat(chain(30, none()), star(chain(10, letter(1, 0)))), 44},
		{cat(empty(), chain(29, letter(1, 0))), 63},
		{cat(star(empty()), chain(28, letter(1, 0))), 64},
		{cat(star(letter(1, 0)), chain(28, letter(1, 0))), 64},
		{cat(star(letter(1, 0)), chain(29, letter(1, 0))), 66},
		{cat(cat(empty(), empty()), chain(27, letter(1, 0))), 63},
		{alt(star(chain(13, letter(1, 0))), star(chain(14, letter(1, 0)))), 63},
		{and(star(chain(14, letter(1, 0))), cat(empty(), chain(13, letter(1, 0)))), 64},
		{and(star(chain(14, letter(1, 0))), star(chain(14, letter(1, 0)))), 65},
	} {
		if x.want != x.e.derivative(1).pieces {
			t.Errorf("the reference derivative of %q has %d pieces, want %d", x.e.text, x.e.derivative(1).pieces, x.want)
		}
		for letter := range uint8(4) {
			d := checkDerive(t, x.e, 2, letter)
			if want := x.want; want <= 64 && len(d) != want || want > 64 && len(d) != 0 {
				t.Errorf("the derivative of %q has %d pieces, want %d", x.e.text, len(d), want)
			}
		}
		e := parsed(t, x.e.text, 2)
		if d, fault := match.Derive(e, 2, 4); fault != api.ErrArg || len(d) > 0 {
			t.Errorf("Derive(%q, 2, 4) = %v, %d, want the error %d", x.e.text, d, fault, api.ErrArg)
		}
	}
}
