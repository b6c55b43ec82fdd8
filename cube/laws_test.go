package cube_test

import (
	"slices"
	"testing"

	"sentinel/api"
	"sentinel/cube"
)

// P2.5

func TestIntersectionHasTheCommonLetters(t *testing.T) {
	for _, a := range everyCube() {
		for _, b := range sampleCubes() {
			c, is := cube.Intersect(a, b)
			for _, x := range []uint8{0, 1, 2, 3, 5, 27, 32, 63, 64, 128, 191, 255, a.Pos, b.Pos, a.Pos | b.Pos} {
				both := cube.Has(a, x) && cube.Has(b, x)
				if is && cube.Has(c, x) != both || !is && both {
					t.Fatalf("Intersect(%v, %v) = %v, %t, but %t for letter %d", a, b, c, is, both, x)
				}
			}
		}
	}
}

func TestValidCubesCoverByTheirLetters(t *testing.T) {
	for vars := range 5 {
		for _, a := range validCubes(vars) {
			for _, b := range validCubes(vars) {
				want := tableOf(lettersOf(b, vars)).within(tableOf(lettersOf(a, vars)))
				if is := cube.Covers(a, b); is != want {
					t.Errorf("Covers(%v, %v) = %t, want %t over %d variables", a, b, is, want, vars)
				}
			}
		}
	}
}

// P2.6

func TestPrimesAreMaximalAndCoverTheLetters(t *testing.T) {
	for vars := range 7 {
		for _, l := range sampleSets(vars) {
			primes, _ := cube.Cover(l, vars)
			given := tableOf(l)
			var covered table
			for _, c := range primes {
				for _, x := range lettersOf(c, vars) {
					covered[x] = true
				}
				for k := range vars {
					larger := api.Cube{Pos: c.Pos &^ (1 << k), Neg: c.Neg &^ (1 << k)}
					if larger != c && tableOf(lettersOf(larger, vars)).within(given) {
						t.Errorf("Cover(%d, %d) contains %v, though %v is within the set", l, vars, c, larger)
					}
				}
			}
			if covered != given {
				t.Errorf("Cover(%d, %d) = %v does not cover exactly the letters", l, vars, primes)
			}
		}
	}
}

func TestCoverOfTheLettersOfACubeIsTheCube(t *testing.T) {
	for vars := range 7 {
		for _, c := range validCubes(vars) {
			l, _ := cube.Letters(c, vars)
			if primes, e := cube.Cover(l, vars); e != api.OK || !slices.Equal(primes, []api.Cube{c}) {
				t.Errorf("Cover(%d, %d) = %v, %d, want only %v", l, vars, primes, e, c)
			}
		}
	}
}

// P2.7

func TestParseInvertsFormat(t *testing.T) {
	for vars := range 7 {
		for _, c := range validCubes(vars) {
			s, _ := cube.Format(c, vars)
			if back, e := cube.Parse(s, vars); e != api.OK || back != c {
				t.Errorf("Parse(%q, %d) = %v, %d, want %v", s, vars, back, e, c)
			}
		}
	}
}

// Every short string is either the text of a cube or not of the required form.
func TestFormatInvertsParse(t *testing.T) {
	texts := map[string]api.Cube{}
	for _, c := range validCubes(6) {
		texts[textOf(c)] = c
	}
	short := []string{""}
	for range 5 {
		for _, s := range short {
			c, is := texts[s]
			for vars := range 7 {
				want := api.OK
				switch {
				case !is:
					want = api.ErrForm
				case int(c.Pos|c.Neg) >= 1<<vars:
					want = api.ErrVars
				}
				checkParse(t, s, vars, want)
			}
		}
		short = longer(short)
	}
}

// longer returns the strings with one more character.
func longer(l []string) []string {
	var long []string
	for _, s := range l {
		for _, sign := range []string{"!", "*", "a", "b", "c", "e", "f", "g", "`", " "} {
			long = append(long, s+sign)
		}
	}
	return long
}

// checkParse checks the error of Parse, and that Format returns the same text if there is none.
func checkParse(t *testing.T, s string, vars int, want api.Errno) {
	c, e := cube.Parse(s, vars)
	if e != want {
		t.Fatalf("Parse(%q, %d) = %v, %d, want the error %d", s, vars, c, e, want)
	}
	if e != api.OK {
		if c != (api.Cube{}) {
			t.Fatalf("Parse(%q, %d) = %v together with the error %d", s, vars, c, e)
		}
		return
	}
	if back, e := cube.Format(c, vars); e != api.OK || back != s {
		t.Fatalf("Format(%v, %d) = %q, %d, want %q", c, vars, back, e, s)
	}
}
