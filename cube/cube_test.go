package cube_test

import (
	"math/bits"
	"slices"
	"strings"
	"testing"

	"sentinel/api"
	"sentinel/cube"
)

// errorOf returns what is invalid about a cube over 0 to 6 variables.
func errorOf(c api.Cube, vars int) api.Errno {
	for k := vars; k < 8; k++ {
		if bit(c.Pos, k) || bit(c.Neg, k) {
			return api.ErrVars
		}
	}
	for k := range vars {
		if bit(c.Pos, k) && bit(c.Neg, k) {
			return api.ErrForm
		}
	}
	return api.OK
}

// P2.1

func TestCheck(t *testing.T) {
	for vars := range 7 {
		for _, c := range everyCube() {
			if e, want := cube.Check(c, vars), errorOf(c, vars); e != want {
				t.Fatalf("Check(%v, %d) = %d, want %d", c, vars, e, want)
			}
		}
	}
	for _, vars := range noNumbersOfVars() {
		for _, c := range sampleCubes() {
			if e := cube.Check(c, vars); e != api.ErrVars {
				t.Errorf("Check(%v, %d) = %d, want %d", c, vars, e, api.ErrVars)
			}
		}
	}
}

func TestCheckLooksForLettersBeforeSharedBits(t *testing.T) {
	for _, x := range []struct {
		c    api.Cube
		vars int
		want api.Errno
	}{
		{api.Cube{Pos: 5, Neg: 1}, 2, api.ErrVars},
		{api.Cube{Pos: 1, Neg: 5}, 2, api.ErrVars},
		{api.Cube{Pos: 1, Neg: 1}, 2, api.ErrForm},
		{api.Cube{Pos: 1, Neg: 1}, 0, api.ErrVars},
		{api.Cube{Pos: 64}, 6, api.ErrVars},
		{api.Cube{Neg: 128}, 6, api.ErrVars},
		{api.Cube{Pos: 63}, 6, api.OK},
		{api.Cube{Pos: 1, Neg: 1}, 7, api.ErrVars},
		{api.Cube{}, 0, api.OK},
	} {
		if e := cube.Check(x.c, x.vars); e != x.want {
			t.Errorf("Check(%v, %d) = %d, want %d", x.c, x.vars, e, x.want)
		}
	}
}

func TestHas(t *testing.T) {
	for _, c := range everyCube() {
		for x := range 256 {
			if is, want := cube.Has(c, uint8(x)), contains(c, uint8(x)); is != want {
				t.Fatalf("Has(%v, %d) = %t, want %t", c, x, is, want)
			}
		}
	}
}

func TestLetters(t *testing.T) {
	for _, x := range []struct {
		c    api.Cube
		vars int
		want []uint8
	}{
		{api.Cube{}, 0, []uint8{0}},
		{api.Cube{}, 1, []uint8{0, 1}},
		{api.Cube{Pos: 1}, 2, []uint8{1, 3}},
		{api.Cube{Pos: 1, Neg: 2}, 2, []uint8{1}},
		{api.Cube{Pos: 32, Neg: 7}, 6, []uint8{32, 40, 48, 56}},
		{api.Cube{Pos: 63}, 6, []uint8{63}},
	} {
		if l, e := cube.Letters(x.c, x.vars); e != api.OK || !slices.Equal(l, x.want) {
			t.Errorf("Letters(%v, %d) = %d, %d, want %d", x.c, x.vars, l, e, x.want)
		}
	}
	for vars := range 7 {
		for _, c := range validCubes(vars) {
			l, e := cube.Letters(c, vars)
			if want := lettersOf(c, vars); e != api.OK || !slices.Equal(l, want) {
				t.Errorf("Letters(%v, %d) = %d, %d, want %d", c, vars, l, e, want)
			}
			if n := 1 << (vars - bits.OnesCount8(c.Pos|c.Neg)); len(l) != n {
				t.Errorf("Letters(%v, %d) has %d letters, want %d", c, vars, len(l), n)
			}
		}
	}
}

func TestLettersErrors(t *testing.T) {
	for _, vars := range append(noNumbersOfVars(), 0, 1, 2, 3, 4, 5, 6) {
		for _, c := range sampleCubes() {
			want := cube.Check(c, vars)
			if l, e := cube.Letters(c, vars); e != want || e != api.OK && len(l) > 0 {
				t.Errorf("Letters(%v, %d) = %d, %d, want the error %d", c, vars, l, e, want)
			}
		}
	}
}

// P2.2

func TestIntersectAndCovers(t *testing.T) {
	for _, a := range sampleCubes() {
		for _, b := range everyCube() {
			union, shares, covers := api.Cube{}, false, true
			for k := range 8 {
				pos, neg := bit(a.Pos, k) || bit(b.Pos, k), bit(a.Neg, k) || bit(b.Neg, k)
				if pos {
					union.Pos += 1 << k
				}
				if neg {
					union.Neg += 1 << k
				}
				shares = shares || pos && neg
				covers = covers && (bit(b.Pos, k) || !bit(a.Pos, k)) && (bit(b.Neg, k) || !bit(a.Neg, k))
			}
			if shares {
				union = api.Cube{}
			}
			if c, is := cube.Intersect(a, b); c != union || is == shares {
				t.Fatalf("Intersect(%v, %v) = %v, %t, want %v, %t", a, b, c, is, union, !shares)
			}
			if is := cube.Covers(a, b); is != covers {
				t.Fatalf("Covers(%v, %v) = %t, want %t", a, b, is, covers)
			}
		}
	}
}

func TestIntersectAndCoversOfExamples(t *testing.T) {
	for _, x := range []struct {
		a, b, c    api.Cube
		is, covers bool
	}{
		{api.Cube{}, api.Cube{}, api.Cube{}, true, true},
		{api.Cube{Pos: 1, Neg: 2}, api.Cube{Pos: 2}, api.Cube{}, false, false},
		{api.Cube{Pos: 1}, api.Cube{Neg: 6}, api.Cube{Pos: 1, Neg: 6}, true, false},
		{api.Cube{Pos: 1}, api.Cube{Pos: 1, Neg: 2}, api.Cube{Pos: 1, Neg: 2}, true, true},
		{api.Cube{Pos: 128}, api.Cube{Neg: 64}, api.Cube{Pos: 128, Neg: 64}, true, false},
		{api.Cube{Pos: 1, Neg: 1}, api.Cube{}, api.Cube{}, false, false},
		{api.Cube{}, api.Cube{Pos: 255, Neg: 255}, api.Cube{}, false, true},
	} {
		if c, is := cube.Intersect(x.a, x.b); c != x.c || is != x.is {
			t.Errorf("Intersect(%v, %v) = %v, %t, want %v, %t", x.a, x.b, c, is, x.c, x.is)
		}
		if is := cube.Covers(x.a, x.b); is != x.covers {
			t.Errorf("Covers(%v, %v) = %t, want %t", x.a, x.b, is, x.covers)
		}
	}
}

// P2.3

func TestCover(t *testing.T) {
	for _, x := range []struct {
		l    []uint8
		vars int
		want []api.Cube
	}{
		{nil, 0, nil},
		{[]uint8{0}, 0, []api.Cube{{}}},
		{nil, 6, nil},
		{[]uint8{0}, 1, []api.Cube{{Neg: 1}}},
		{[]uint8{1, 2, 3}, 2, []api.Cube{{Pos: 1}, {Pos: 2}}},
		{[]uint8{0, 3}, 2, []api.Cube{{Neg: 3}, {Pos: 3}}},
		{[]uint8{0, 1, 2, 5, 6, 7}, 3, []api.Cube{{Neg: 5}, {Neg: 6}, {Pos: 1, Neg: 2}, {Pos: 2, Neg: 1}, {Pos: 4 + 1}, {Pos: 4 + 2}}},
		{[]uint8{63}, 6, []api.Cube{{Pos: 63}}},
	} {
		if c, e := cube.Cover(x.l, x.vars); e != api.OK || !slices.Equal(c, x.want) {
			t.Errorf("Cover(%d, %d) = %v, %d, want %v", x.l, x.vars, c, e, x.want)
		}
	}
	for vars := range 7 {
		for _, l := range sampleSets(vars) {
			c, e := cube.Cover(l, vars)
			if want := primesOf(l, vars); e != api.OK || !slices.Equal(c, want) {
				t.Errorf("Cover(%d, %d) = %v, %d, want %v", l, vars, c, e, want)
			}
		}
	}
}

func TestCoverErrors(t *testing.T) {
	for _, x := range []struct {
		l    []uint8
		vars int
		want api.Errno
	}{
		{nil, -1, api.ErrVars},
		{[]uint8{3, 1}, 7, api.ErrVars},
		{[]uint8{0, 1}, 0, api.ErrArg},
		{[]uint8{1}, 0, api.ErrArg},
		{[]uint8{3, 1}, 2, api.ErrArg},
		{[]uint8{1, 1}, 2, api.ErrArg},
		{[]uint8{0, 0}, 2, api.ErrArg},
		{[]uint8{0, 1, 2, 3, 3}, 2, api.ErrArg},
		{[]uint8{0, 4}, 2, api.ErrArg},
		{[]uint8{64}, 6, api.ErrArg},
		{[]uint8{0, 255}, 6, api.ErrArg},
		{[]uint8{1, 64, 2}, 6, api.ErrArg},
		{make([]uint8, 5000), 6, api.ErrArg},
	} {
		if c, e := cube.Cover(x.l, x.vars); e != x.want || len(c) > 0 {
			t.Errorf("Cover(%d, %d) = %v, %d, want the error %d", x.l, x.vars, c, e, x.want)
		}
	}
	for _, vars := range noNumbersOfVars() {
		for _, l := range [][]uint8{nil, {0}, {9, 3}} {
			if c, e := cube.Cover(l, vars); e != api.ErrVars || len(c) > 0 {
				t.Errorf("Cover(%d, %d) = %v, %d, want the error %d", l, vars, c, e, api.ErrVars)
			}
		}
	}
}

// P2.4

func TestFormat(t *testing.T) {
	for _, x := range []struct {
		c    api.Cube
		vars int
		want string
	}{
		{api.Cube{}, 0, "*"},
		{api.Cube{}, 6, "*"},
		{api.Cube{Pos: 1}, 1, "a"},
		{api.Cube{Neg: 1}, 1, "!a"},
		{api.Cube{Pos: 1, Neg: 2}, 2, "a!b"},
		{api.Cube{Pos: 2 + 32, Neg: 1 + 16}, 6, "!ab!ef"},
		{api.Cube{Pos: 63}, 6, "abcdef"},
		{api.Cube{Neg: 63}, 6, "!a!b!c!d!e!f"},
	} {
		if s, e := cube.Format(x.c, x.vars); e != api.OK || s != x.want {
			t.Errorf("Format(%v, %d) = %q, %d, want %q", x.c, x.vars, s, e, x.want)
		}
	}
	for vars := range 7 {
		for _, c := range validCubes(vars) {
			if s, e := cube.Format(c, vars); e != api.OK || s != textOf(c) {
				t.Errorf("Format(%v, %d) = %q, %d, want %q", c, vars, s, e, textOf(c))
			}
		}
	}
}

func TestFormatErrors(t *testing.T) {
	for _, vars := range append(noNumbersOfVars(), 0, 1, 2, 3, 4, 5, 6) {
		for _, c := range sampleCubes() {
			want := cube.Check(c, vars)
			if s, e := cube.Format(c, vars); e != want || e != api.OK && s != "" {
				t.Errorf("Format(%v, %d) = %q, %d, want the error %d", c, vars, s, e, want)
			}
		}
	}
}

func TestParse(t *testing.T) {
	for _, x := range []struct {
		s    string
		vars int
		want api.Cube
	}{
		{"*", 0, api.Cube{}},
		{"*", 6, api.Cube{}},
		{"a", 1, api.Cube{Pos: 1}},
		{"!a", 1, api.Cube{Neg: 1}},
		{"a!b", 2, api.Cube{Pos: 1, Neg: 2}},
		{"!c", 3, api.Cube{Neg: 4}},
		{"!a!c", 3, api.Cube{Neg: 5}},
		{"b!df", 6, api.Cube{Pos: 2 + 32, Neg: 8}},
		{"!a!b!c!d!e!f", 6, api.Cube{Neg: 63}},
	} {
		if c, e := cube.Parse(x.s, x.vars); e != api.OK || c != x.want {
			t.Errorf("Parse(%q, %d) = %v, %d, want %v", x.s, x.vars, c, e, x.want)
		}
	}
}

func TestParseErrors(t *testing.T) {
	for _, x := range []struct {
		s    string
		vars int
		want api.Errno
	}{
		{"", 2, api.ErrForm},
		{"ba", 2, api.ErrForm},
		{"aa", 2, api.ErrForm},
		{"a!a", 2, api.ErrForm},
		{"!", 2, api.ErrForm},
		{"!!a", 2, api.ErrForm},
		{"a!", 2, api.ErrForm},
		{"!*", 2, api.ErrForm},
		{"**", 2, api.ErrForm},
		{"a*", 2, api.ErrForm},
		{"*a", 2, api.ErrForm},
		{" a", 2, api.ErrForm},
		{"a b", 2, api.ErrForm},
		{"a\n", 2, api.ErrForm},
		{"a\x00", 2, api.ErrForm},
		{"A", 2, api.ErrForm},
		{"g", 6, api.ErrForm},
		{"`", 6, api.ErrForm},
		{"\xff", 6, api.ErrForm},
		{"á", 6, api.ErrForm},
		{"1", 6, api.ErrForm},
		{"a", 0, api.ErrVars},
		{"!b", 1, api.ErrVars},
		{"abc", 2, api.ErrVars},
		{"f", 5, api.ErrVars},
		{"fa", 1, api.ErrForm},
		{"bg", 1, api.ErrForm},
		{"ba", 1, api.ErrForm},
		{"a", 7, api.ErrVars},
		{"*", -1, api.ErrVars},
		{"", 7, api.ErrVars},
		{strings.Repeat("x", api.MaxSource+1), 7, api.ErrVars},
		{strings.Repeat("x", api.MaxSource+1), 6, api.ErrLong},
		{"abcdef" + strings.Repeat(" ", api.MaxSource), 0, api.ErrLong},
		{strings.Repeat("x", api.MaxSource), 6, api.ErrForm},
		{strings.Repeat("!", api.MaxSource), 6, api.ErrForm},
	} {
		if c, e := cube.Parse(x.s, x.vars); e != x.want || c != (api.Cube{}) {
			t.Errorf("Parse(%.20q, %d) = %v, %d, want the error %d", x.s, x.vars, c, e, x.want)
		}
	}
	for _, vars := range noNumbersOfVars() {
		if c, e := cube.Parse("a", vars); e != api.ErrVars || c != (api.Cube{}) {
			t.Errorf("Parse(%q, %d) = %v, %d, want the error %d", "a", vars, c, e, api.ErrVars)
		}
	}
}
