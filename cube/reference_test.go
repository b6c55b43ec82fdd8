package cube_test

import (
	"math"
	"strings"

	"sentinel/api"
)

// The functions of this file are written without the package under test, variable by variable.

// noNumbersOfVars contains numbers of variables that no alphabet has.
func noNumbersOfVars() []int {
	return []int{math.MinInt, math.MinInt32, -64, -7, -1, 7, 8, 9, 63, 64, 1 << 32, 1<<32 + 2, math.MaxInt}
}

// everyCube returns all values of the type, most of them not valid.
func everyCube() []api.Cube {
	var l []api.Cube
	for pos := range 256 {
		for neg := range 256 {
			l = append(l, api.Cube{Pos: uint8(pos), Neg: uint8(neg)})
		}
	}
	return l
}

// sampleCubes returns some of all values of the type, valid and not valid.
func sampleCubes() []api.Cube {
	var l []api.Cube
	for _, pos := range []uint8{0, 1, 2, 3, 5, 32, 63, 64, 128, 192, 255} {
		for _, neg := range []uint8{0, 1, 2, 4, 6, 31, 32, 63, 64, 128, 255} {
			l = append(l, api.Cube{Pos: pos, Neg: neg})
		}
	}
	return l
}

// validCubes returns the valid cubes in ascending order of Pos and then of Neg.
func validCubes(vars int) []api.Cube {
	var l []api.Cube
	for pos := range 1 << vars {
		for neg := range 1 << vars {
			if pos&neg == 0 {
				l = append(l, api.Cube{Pos: uint8(pos), Neg: uint8(neg)})
			}
		}
	}
	return l
}

func bit(x uint8, k int) bool {
	return x>>k%2 == 1
}

// contains reports whether x has all the required values.
func contains(c api.Cube, x uint8) bool {
	for k := range 8 {
		if bit(c.Pos, k) && !bit(x, k) || bit(c.Neg, k) && bit(x, k) {
			return false
		}
	}
	return true
}

// lettersOf returns the letters of a valid cube.
func lettersOf(c api.Cube, vars int) []uint8 {
	var l []uint8
	for x := range 1 << vars {
		if contains(c, uint8(x)) {
			l = append(l, uint8(x))
		}
	}
	return l
}

// table is a set of letters.
type table [64]bool

func tableOf(l []uint8) table {
	var t table
	for _, x := range l {
		t[x] = true
	}
	return t
}

func (t table) within(u table) bool {
	for x, is := range t {
		if is && !u[x] {
			return false
		}
	}
	return true
}

// primesOf returns the prime cubes by their definition: no other cube within the set properly contains them.
func primesOf(l []uint8, vars int) []api.Cube {
	given := tableOf(l)
	var inside []api.Cube
	var tables []table
	for _, c := range validCubes(vars) {
		if t := tableOf(lettersOf(c, vars)); t.within(given) {
			inside = append(inside, c)
			tables = append(tables, t)
		}
	}
	var primes []api.Cube
	for i, c := range inside {
		prime := true
		for j := range inside {
			prime = prime && (tables[i] == tables[j] || !tables[i].within(tables[j]))
		}
		if prime {
			primes = append(primes, c)
		}
	}
	return primes
}

// textOf returns the text of a valid cube.
func textOf(c api.Cube) string {
	var l []string
	for k, name := range []string{"a", "b", "c", "d", "e", "f"} {
		switch {
		case bit(c.Pos, k):
			l = append(l, name)
		case bit(c.Neg, k):
			l = append(l, "!"+name)
		}
	}
	if l == nil {
		return "*"
	}
	return strings.Join(l, "")
}

// sampleSets returns sets of letters: all over at most three variables, some over more.
func sampleSets(vars int) [][]uint8 {
	var l [][]uint8
	if vars <= 3 {
		for chosen := range 1 << (1 << vars) {
			l = append(l, select64(uint64(chosen), vars))
		}
		return l
	}
	l = append(l, nil, select64(math.MaxUint64, vars), select64(math.MaxUint64-1, vars), select64(math.MaxUint64>>1, vars))
	x := uint64(9)
	for n := range 60 {
		x = x*6364136223846793005 + 1442695040888963407
		sparse, dense := x&(x>>9), x|x>>9|x<<13
		l = append(l, select64([]uint64{x, sparse, dense}[n%3]>>(n%2), vars))
	}
	return l
}

// select64 returns the letters whose bit in chosen is 1.
func select64(chosen uint64, vars int) []uint8 {
	var l []uint8
	for x := range 1 << vars {
		if chosen>>x&1 == 1 {
			l = append(l, uint8(x))
		}
	}
	return l
}
