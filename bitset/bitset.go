// Package bitset implements sets of numbers from 0 to api.MaxElement.
package bitset

import (
	"math/bits"
	"slices"

	"sentinel/api"
)

// Of returns the set of the given numbers; those outside the range are ignored.
func Of(l ...int) api.Set {
	var s api.Set
	for _, k := range l {
		if !inRange(k) {
			continue
		}
		i, bit := place(k)
		// A set that grows gets a bit in its new last word, so it stays canonical.
		for len(s) <= i {
			s = append(s, 0)
		}
		s[i] |= bit
	}
	return s
}

// Canonical returns the canonical form of a set.
func Canonical(s api.Set) api.Set {
	return Union(s, nil)
}

// List returns the elements in ascending order.
func List(s api.Set) []int {
	list := make([]int, 0, Len(s))
	for k := range elements(s) {
		list = append(list, k)
	}
	return list
}

// Has reports whether k is an element.
func Has(s api.Set, k int) bool {
	if !inRange(k) {
		return false
	}
	i, bit := place(k)
	return word(s, i)&bit != 0
}

// With returns the set with k, which is ignored outside the range.
func With(s api.Set, k int) api.Set {
	return Union(s, Of(k))
}

// Without returns the set without k.
func Without(s api.Set, k int) api.Set {
	return Minus(s, Of(k))
}

// Union returns the set of the elements of a or b.
func Union(a, b api.Set) api.Set {
	return combine(a, b, func(x, y uint64) uint64 { return x | y })
}

// Intersect returns the set of the elements of a and b.
func Intersect(a, b api.Set) api.Set {
	return combine(a, b, func(x, y uint64) uint64 { return x & y })
}

// Minus returns the set of the elements of a that are not in b.
func Minus(a, b api.Set) api.Set {
	return combine(a, b, func(x, y uint64) uint64 { return x &^ y })
}

// Len returns the number of elements.
func Len(s api.Set) int {
	n := 0
	for _, w := range used(s) {
		n += bits.OnesCount64(w)
	}
	return n
}

// Min returns the smallest element and true, or 0 and false for an empty set.
func Min(s api.Set) (int, bool) {
	for k := range elements(s) {
		return k, true
	}
	return 0, false
}

// Subset reports whether every element of a is an element of b.
func Subset(a, b api.Set) bool {
	return everywhere(a, b, func(x, y uint64) bool { return x&^y == 0 })
}

// Equal reports whether a and b have the same elements.
func Equal(a, b api.Set) bool {
	return everywhere(a, b, func(x, y uint64) bool { return x == y })
}

// Intersects reports whether a and b have a common element.
func Intersects(a, b api.Set) bool {
	return !everywhere(a, b, func(x, y uint64) bool { return x&y == 0 })
}

// Compare compares the lists of elements: it returns -1, 0 or 1.
func Compare(a, b api.Set) int {
	return slices.Compare(List(a), List(b))
}
