package cube_test

import (
	"slices"
	"testing"

	"sentinel/api"
	"sentinel/cube"
)

// R1: no function panics.
func TestNoFunctionPanics(t *testing.T) {
	texts := []string{"", "*", "a", "!", "fa", "abcdef", "\xff\x00", "!a!b!c!d!e!f!"}
	for _, vars := range append(noNumbersOfVars(), 0, 1, 2, 3, 4, 5, 6) {
		for _, c := range sampleCubes() {
			cube.Check(c, vars)
			cube.Letters(c, vars)
			cube.Format(c, vars)
			cube.Cover([]uint8{c.Pos, c.Neg}, vars)
		}
		for _, s := range texts {
			cube.Parse(s, vars)
		}
	}
}

// R1: nil and empty slices are equivalent.
func TestNilIsEmpty(t *testing.T) {
	for vars := -1; vars <= 7; vars++ {
		c, e := cube.Cover(nil, vars)
		d, f := cube.Cover([]uint8{}, vars)
		if e != f || len(c) != 0 || len(d) != 0 {
			t.Errorf("Cover of nil is %v, %d, of the empty slice %v, %d", c, e, d, f)
		}
	}
}

// R3: Cover does not change its argument and does not read beyond its length.
func TestCoverLeavesItsArgument(t *testing.T) {
	memory := []uint8{1, 2, 3, 0, 200}
	c, e := cube.Cover(memory[:3], 2)
	if e != api.OK || !slices.Equal(c, []api.Cube{{Pos: 1}, {Pos: 2}}) {
		t.Errorf("Cover = %v, %d, want a and b", c, e)
	}
	if !slices.Equal(memory, []uint8{1, 2, 3, 0, 200}) {
		t.Errorf("the memory of the argument has become %d", memory)
	}
	memory[0] = 0
	if !slices.Equal(c, []api.Cube{{Pos: 1}, {Pos: 2}}) {
		t.Errorf("the result changes with the argument: %v", c)
	}
}

// R3: results share no memory with each other. P1: nothing is kept between calls.
func TestResultsShareNoMemory(t *testing.T) {
	for vars := range 7 {
		for _, c := range validCubes(vars) {
			l, _ := cube.Letters(c, vars)
			primes, _ := cube.Cover(l, vars)
			letters, cover := slices.Clone(l), slices.Clone(primes)
			overwrite(l, 77)
			overwrite(primes, api.Cube{Pos: 77, Neg: 77})
			if again, e := cube.Letters(c, vars); e != api.OK || !slices.Equal(again, letters) {
				t.Errorf("Letters(%v, %d) = %d, later %d", c, vars, letters, again)
			}
			if again, e := cube.Cover(letters, vars); e != api.OK || !slices.Equal(again, cover) {
				t.Errorf("Cover(%d, %d) = %v, later %v", letters, vars, cover, again)
			}
		}
	}
}

// overwrite changes all the memory that a slice can reach.
func overwrite[E any](s []E, value E) {
	s = s[:cap(s)]
	for i := range s {
		s[i] = value
	}
}
