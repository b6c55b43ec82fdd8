package cube

import (
	"iter"

	"sentinel/api"
)

// The signs of the texts.
const (
	anyLetter = "*" // the text of the cube without literals
	negation  = '!'
	firstName = 'a' // the name of variable 0
)

// isNumberOfVars reports whether an alphabet can have vars variables.
func isNumberOfVars(vars int) bool {
	return 0 <= vars && vars <= api.MaxVars
}

// isLetter reports whether x is a letter of the alphabet with vars variables.
func isLetter(x uint8, vars int) bool {
	return int(x) < 1<<vars
}

// areAscendingLetters reports whether l is a strictly ascending slice of letters.
func areAscendingLetters(l []uint8, vars int) bool {
	for i, x := range l {
		if !isLetter(x, vars) || i > 0 && l[i-1] >= x {
			return false
		}
	}
	return true
}

// letters yields the letters of the alphabet with vars variables in ascending order.
func letters(vars int) iter.Seq[uint8] {
	return func(yield func(uint8) bool) {
		for x := range 1 << vars {
			if !yield(uint8(x)) {
				return
			}
		}
	}
}

// literals yields the variables of the literals in ascending order, each with its required value.
func literals(c api.Cube) iter.Seq2[int, bool] {
	return func(yield func(int, bool) bool) {
		for k := range api.MaxVars {
			bit := uint8(1) << k
			if (c.Pos|c.Neg)&bit != 0 && !yield(k, c.Pos&bit != 0) {
				return
			}
		}
	}
}

// with returns the cube with a literal for variable k, which has none.
func with(c api.Cube, k int, value bool) api.Cube {
	if value {
		c.Pos |= 1 << k
	} else {
		c.Neg |= 1 << k
	}
	return c
}

// without returns the cube without the literal for variable k.
func without(c api.Cube, k int) api.Cube {
	return api.Cube{Pos: c.Pos &^ (1 << k), Neg: c.Neg &^ (1 << k)}
}

// read returns the cube of a text over api.MaxVars variables, or false if s is not the text of a cube.
func read(s string) (api.Cube, bool) {
	var c api.Cube
	if s == anyLetter {
		return c, true
	}
	least, value := 0, true // the least variable that may follow, and its value
	for i := range len(s) {
		switch k := int(s[i]) - firstName; {
		case s[i] == negation && value:
			value = false
		case least <= k && k < api.MaxVars:
			c = with(c, k, value)
			least, value = k+1, true
		default:
			return api.Cube{}, false
		}
	}
	if least == 0 || !value {
		return api.Cube{}, false
	}
	return c, true
}
