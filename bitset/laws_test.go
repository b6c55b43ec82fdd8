package bitset_test

import (
	"slices"
	"testing"

	"sentinel/api"
	"sentinel/bitset"
)

// subsets returns all sets of some numbers at the ends of the range and of words, some not canonical.
func subsets() []api.Set {
	universe := []int{0, 1, 63, 64, 4095}
	var l []api.Set
	for chosen := range 1 << len(universe) {
		var s api.Set
		for i, k := range universe {
			if chosen>>i&1 == 1 {
				s = bitset.With(s, k)
			}
		}
		if chosen%3 == 0 {
			s = append(s, 0, 0)
		}
		l = append(l, s)
	}
	return l
}

// P1.4

func TestLawsOfOneAndTwoSets(t *testing.T) {
	for _, a := range subsets() {
		if !bitset.Equal(bitset.Union(a, a), a) || !bitset.Equal(bitset.Intersect(a, a), a) {
			t.Errorf("union or intersection of %d is not idempotent", a)
		}
		for _, b := range subsets() {
			union, common, rest := bitset.Union(a, b), bitset.Intersect(a, b), bitset.Minus(a, b)
			if !slices.Equal(union, bitset.Union(b, a)) || !slices.Equal(common, bitset.Intersect(b, a)) {
				t.Errorf("union or intersection of %d and %d is not commutative", a, b)
			}
			if bitset.Intersects(rest, b) || !bitset.Equal(bitset.Union(rest, common), a) {
				t.Errorf("%d minus %d is %d", a, b, rest)
			}
			if bitset.Len(union) != bitset.Len(a)+bitset.Len(b)-bitset.Len(common) {
				t.Errorf("the length of the union of %d and %d is %d", a, b, bitset.Len(union))
			}
		}
	}
}

func TestLawsOfThreeSets(t *testing.T) {
	u, n := bitset.Union, bitset.Intersect
	for _, a := range subsets() {
		for _, b := range subsets() {
			for _, c := range subsets() {
				if !slices.Equal(u(u(a, b), c), u(a, u(b, c))) || !slices.Equal(n(n(a, b), c), n(a, n(b, c))) {
					t.Fatalf("union or intersection of %d, %d and %d is not associative", a, b, c)
				}
				if !slices.Equal(n(a, u(b, c)), u(n(a, b), n(a, c))) || !slices.Equal(u(a, n(b, c)), n(u(a, b), u(a, c))) {
					t.Fatalf("union and intersection of %d, %d and %d do not distribute", a, b, c)
				}
			}
		}
	}
}

// P1.5

func TestListAndOfAreInverse(t *testing.T) {
	for _, s := range samples() {
		if x := bitset.Of(bitset.List(s)...); !slices.Equal(x, bitset.Canonical(s)) {
			t.Errorf("Of(List(%d)) = %d, want %d", s, x, bitset.Canonical(s))
		}
	}
	for _, l := range [][]int{nil, {9}, {64, 63}, {4095, 0, 1}, {7, 7, 5, 4000, 5}} {
		want := slices.Compact(slices.Sorted(slices.Values(l)))
		if x := bitset.List(bitset.Of(l...)); !slices.Equal(x, want) {
			t.Errorf("List(Of(%d)) = %d, want %d", l, x, want)
		}
	}
}

func TestCompareIsATotalOrder(t *testing.T) {
	for _, a := range subsets() {
		for _, b := range subsets() {
			c := bitset.Compare(a, b)
			if c != -bitset.Compare(b, a) || (c == 0) != bitset.Equal(a, b) || c < -1 || c > 1 {
				t.Fatalf("Compare(%d, %d) = %d, the other way round %d", a, b, c, bitset.Compare(b, a))
			}
			for _, d := range subsets() {
				if c <= 0 && bitset.Compare(b, d) <= 0 && bitset.Compare(a, d) > 0 {
					t.Fatalf("Compare is not transitive for %d, %d and %d", a, b, d)
				}
			}
		}
	}
}
