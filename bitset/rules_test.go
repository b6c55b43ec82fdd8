package bitset_test

import (
	"slices"
	"testing"

	"sentinel/api"
	"sentinel/bitset"
)

// makers returns the functions with a set as result, applied to two sets and a number.
func makers() map[string]func(a, b api.Set, k int) api.Set {
	return map[string]func(a, b api.Set, k int) api.Set{
		"Canonical": func(a, b api.Set, k int) api.Set { return bitset.Canonical(a) },
		"With":      func(a, b api.Set, k int) api.Set { return bitset.With(a, k) },
		"Without":   func(a, b api.Set, k int) api.Set { return bitset.Without(a, k) },
		"Union":     func(a, b api.Set, k int) api.Set { return bitset.Union(a, b) },
		"Intersect": func(a, b api.Set, k int) api.Set { return bitset.Intersect(a, b) },
		"Minus":     func(a, b api.Set, k int) api.Set { return bitset.Minus(a, b) },
	}
}

// callAll calls every function of the package.
func callAll(a, b api.Set, k int) {
	for _, f := range makers() {
		f(a, b, k)
	}
	bitset.Of(k, k)
	bitset.List(a)
	bitset.Has(a, k)
	bitset.Len(a)
	bitset.Min(a)
	bitset.Subset(a, b)
	bitset.Equal(a, b)
	bitset.Intersects(a, b)
	bitset.Compare(a, b)
}

// R1: no function panics; R3: no function changes its arguments.
func TestNoFunctionPanicsOrChangesArguments(t *testing.T) {
	for _, a := range samples() {
		for _, b := range samples() {
			c, d := slices.Clone(a), slices.Clone(b)
			for _, k := range numbers() {
				callAll(a, b, k)
			}
			if !slices.Equal(a, c) || !slices.Equal(b, d) {
				t.Fatalf("arguments %d and %d have become %d and %d", c, d, a, b)
			}
		}
	}
	l := []int{70, 3, -1, 5000, 3}
	bitset.Of(l...)
	if !slices.Equal(l, []int{70, 3, -1, 5000, 3}) {
		t.Errorf("the argument of Of has become %d", l)
	}
}

// R1: nil and empty slices are equivalent.
func TestNilIsEmpty(t *testing.T) {
	for _, s := range samples() {
		for name, f := range makers() {
			if x, y := f(nil, s, 5), f(api.Set{}, s, 5); !slices.Equal(x, y) {
				t.Errorf("%s(nil, %d) = %d, but %d for the empty slice", name, s, x, y)
			}
			if x, y := f(s, nil, 5), f(s, api.Set{}, 5); !slices.Equal(x, y) {
				t.Errorf("%s(%d, nil) = %d, but %d for the empty slice", name, s, x, y)
			}
		}
	}
	if !bitset.Equal(nil, api.Set{}) || bitset.Compare(nil, api.Set{0}) != 0 || !bitset.Subset(nil, nil) || bitset.Intersects(nil, nil) {
		t.Error("nil is not the empty set")
	}
}

// R3: results share no memory with arguments or with each other.
func TestResultsShareNoMemory(t *testing.T) {
	for name, f := range makers() {
		for _, k := range []int{-1, 2, 3, 130, 4096} {
			a, b := api.Set{9, 0, 4}, api.Set{8, 0, 12}
			x, y := f(a, b, k), f(a, b, k)
			want := slices.Clone(y)
			overwrite(x)
			if !slices.Equal(a, api.Set{9, 0, 4}) || !slices.Equal(b, api.Set{8, 0, 12}) || !slices.Equal(y, want) {
				t.Errorf("%s: the result shares memory", name)
			}
			overwrite(a)
			overwrite(b)
			if !slices.Equal(y, want) {
				t.Errorf("%s: the result changes with the arguments", name)
			}
		}
	}
}

// overwrite changes all the memory that a slice can reach.
func overwrite(s api.Set) {
	s = s[:cap(s)]
	for i := range s {
		s[i] = 77
	}
}

// R3: elements beyond the length of a slice are not read.
func TestElementsBeyondTheLengthAreNotRead(t *testing.T) {
	memory := api.Set{9, 4, 5, 6}
	a, b := memory[:2], api.Set{1, 1, 1}
	for name, f := range makers() {
		if x, y := f(a, b, 150), f(api.Set{9, 4}, b, 150); !slices.Equal(x, y) {
			t.Errorf("%s = %d, want %d", name, x, y)
		}
	}
	if l := bitset.List(a); !slices.Equal(l, []int{0, 3, 66}) {
		t.Errorf("List = %d, want [0 3 66]", l)
	}
	if bitset.Has(a, 128) || bitset.Len(a) != 3 || !bitset.Equal(a, api.Set{9, 4}) {
		t.Error("Has, Len or Equal reads beyond the length")
	}
	if !slices.Equal(memory, api.Set{9, 4, 5, 6}) {
		t.Errorf("the memory behind an argument has become %d", memory)
	}
	list := []int{3, 70, 200}
	if s := bitset.Of(list[:2]...); !slices.Equal(s, api.Set{8, 64}) {
		t.Errorf("Of = %d, want [8 64]", s)
	}
}

// P1: nothing is kept between calls.
func TestCallsAreIndependent(t *testing.T) {
	for name, f := range makers() {
		a, b := api.Set{9, 0, 4}, api.Set{8, 0, 12}
		first := slices.Clone(f(a, b, 64))
		for _, s := range samples() {
			callAll(s, a, 64)
		}
		if again := f(a, b, 64); !slices.Equal(again, first) {
			t.Errorf("%s = %d, later %d", name, first, again)
		}
	}
}
