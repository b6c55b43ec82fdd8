package bitset

import (
	"iter"
	"math/bits"

	"sentinel/api"
)

const (
	wordBits = 64
	maxWords = api.MaxElement/wordBits + 1
)

// inRange reports whether k can be an element.
func inRange(k int) bool {
	return 0 <= k && k <= api.MaxElement
}

// place returns the index of the word of k and the bit that stands for k in it.
func place(k int) (index int, bit uint64) {
	return k / wordBits, 1 << (k % wordBits)
}

// used returns the words that the canonical form has. It does not copy them,
// so a result must not be made of the used words of an argument.
func used(s api.Set) api.Set {
	n := min(len(s), maxWords)
	for n > 0 && s[n-1] == 0 {
		n--
	}
	return s[:n]
}

// word returns word i, which is 0 where the set has none; i is less than maxWords.
func word(s api.Set, i int) uint64 {
	if i < len(s) {
		return s[i]
	}
	return 0
}

// span returns the number of words that a or b has.
func span(a, b api.Set) int {
	return max(len(used(a)), len(used(b)))
}

// combine returns the set whose words are computed from those of a and b; op(0, 0) must be 0.
func combine(a, b api.Set, op func(x, y uint64) uint64) api.Set {
	s := make(api.Set, span(a, b))
	for i := range s {
		s[i] = op(word(a, i), word(b, i))
	}
	return used(s)
}

// everywhere reports whether holds is true for all pairs of words of a and b; holds(0, 0) must be true.
func everywhere(a, b api.Set, holds func(x, y uint64) bool) bool {
	for i := range span(a, b) {
		if !holds(word(a, i), word(b, i)) {
			return false
		}
	}
	return true
}

// elements yields the elements in ascending order.
func elements(s api.Set) iter.Seq[int] {
	return func(yield func(int) bool) {
		for i, rest := range used(s) {
			for rest != 0 {
				if !yield(i*wordBits + bits.TrailingZeros64(rest)) {
					return
				}
				rest &= rest - 1 // removes the lowest bit
			}
		}
	}
}
