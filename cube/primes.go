package cube

import (
	"iter"

	"sentinel/api"
)

// having contains, for each variable, the region of the letters in which it is 1.
// A region is a set of letters: bit x stands for letter x, so 64 bits are enough for api.MaxVars variables.
var having = [api.MaxVars]uint64{
	0xAAAAAAAAAAAAAAAA,
	0xCCCCCCCCCCCCCCCC,
	0xF0F0F0F0F0F0F0F0,
	0xFF00FF00FF00FF00,
	0xFFFF0000FFFF0000,
	0xFFFFFFFF00000000,
}

// regionOf returns the region of the given letters.
func regionOf(l []uint8) uint64 {
	var r uint64
	for _, x := range l {
		r |= 1 << x
	}
	return r
}

// region returns the region of the letters of a valid cube.
func region(c api.Cube, vars int) uint64 {
	// With six variables the shift yields 0, and subtracting wraps around to all letters.
	r := uint64(1)<<(1<<vars) - 1
	for k, value := range literals(c) {
		if value {
			r &= having[k]
		} else {
			r &^= having[k]
		}
	}
	return r
}

// cubes yields the valid cubes in ascending order of Pos and then of Neg.
func cubes(vars int) iter.Seq[api.Cube] {
	return func(yield func(api.Cube) bool) {
		for pos := range letters(vars) {
			for neg := range letters(vars) {
				if pos&neg == 0 && !yield(api.Cube{Pos: pos, Neg: neg}) {
					return
				}
			}
		}
	}
}

// primes returns the cubes inside a set of letters that no other cube inside it properly contains.
func primes(vars int, inside func(c api.Cube) bool) []api.Cube {
	var found []api.Cube
candidates:
	for c := range cubes(vars) {
		if !inside(c) {
			continue
		}
		// A cube that properly contains c lacks one of its literals; if it is inside, so is c without that one.
		for k := range literals(c) {
			if inside(without(c, k)) {
				continue candidates
			}
		}
		found = append(found, c)
	}
	return found
}
