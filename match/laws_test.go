package match_test

import (
	"slices"
	"testing"

	"sentinel/api"
	"sentinel/match"
	"sentinel/regex"
)

// accepts returns what Accepts returns without an error.
func accepts(t *testing.T, e api.Regex, vars int, w []uint8) bool {
	t.Helper()
	is, fault := match.Accepts(e, vars, w)
	if fault != api.OK {
		t.Fatalf("Accepts(%v, %d, %d) returned the error %d", e, vars, w, fault)
	}
	return is
}

// table returns what Table returns without an error.
func table(t *testing.T, e api.Regex, vars int, w []uint8) [][]bool {
	t.Helper()
	m, fault := match.Table(e, vars, w)
	if fault != api.OK {
		t.Fatalf("Table(%v, %d, %d) returned the error %d", e, vars, w, fault)
	}
	return m
}

// P5.3

func TestFactors(t *testing.T) {
	for _, s := range samples() {
		if !s.plain {
			continue
		}
		e := parsed(t, s.text, s.vars)
		w := s.words[len(s.words)-1]
		if len(w) > 12 {
			w = w[:12]
		}
		m := table(t, e, s.vars, w)
		for i := range m {
			for j := range m {
				if want := i <= j && accepts(t, e, s.vars, w[i:max(i, j)]); m[i][j] != want {
					t.Errorf("%q matches %d from %d to %d: %t, but it accepts the factor: %t", s.text, w, i, j, m[i][j], want)
				}
			}
		}
	}
}

func TestFactorsWithLookArounds(t *testing.T) {
	for _, x := range []struct {
		text string
		i, j int
	}{{"([a].(>[b]))", 0, 1}, {"((<[a]).[b])", 1, 2}} {
		e, w := parsed(t, x.text, 2), []uint8{1, 2}
		if m := table(t, e, 2, w); !m[x.i][x.j] || accepts(t, e, 2, w[x.i:x.j]) {
			t.Errorf("%q matches %d from %d to %d: %t, and it accepts the factor", x.text, w, x.i, x.j, m[x.i][x.j])
		}
	}
}

// P5.4

func TestDerivativesAcceptTheRests(t *testing.T) {
	accepted, compared := 0, 0
	for _, s := range samples() {
		if !s.plain {
			continue
		}
		e := parsed(t, s.text, s.vars)
		is, fault := match.Nullable(e, s.vars)
		if fault != api.OK || is != accepts(t, e, s.vars, nil) {
			t.Errorf("Nullable(%q, %d) = %t, %d, and Accepts differs", s.text, s.vars, is, fault)
		}
		for _, w := range s.words {
			if len(w) == 0 {
				continue
			}
			d, fault := match.Derive(e, s.vars, w[0])
			if fault == api.ErrLong {
				continue
			}
			want := accepts(t, e, s.vars, w)
			if is := accepts(t, d, s.vars, w[1:]); is != want {
				t.Errorf("%q accepts %d: %t, but its derivative accepts the rest: %t", s.text, w, want, is)
			}
			compared++
			if want {
				accepted++
			}
		}
	}
	if accepted < compared/5 || accepted > compared-compared/5 {
		t.Errorf("%d of %d words are accepted", accepted, compared)
	}
}

// P5.5

func TestReversedExpressionsMatchReversedWords(t *testing.T) {
	for _, s := range samples() {
		e := parsed(t, s.text, s.vars)
		r, fault := regex.Reverse(e, s.vars)
		if fault != api.OK {
			t.Fatalf("Reverse(%q, %d) returned the error %d", s.text, s.vars, fault)
		}
		for _, w := range s.words {
			backwards := slices.Clone(w)
			slices.Reverse(backwards)
			m, back := table(t, e, s.vars, w), table(t, r, s.vars, backwards)
			for i, row := range m {
				for j, matches := range row {
					if n := len(w); back[n-j][n-i] != matches {
						t.Errorf("%q matches %d from %d to %d: %t, and reversed not", s.text, w, i, j, matches)
					}
				}
			}
		}
	}
}
