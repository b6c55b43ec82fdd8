package bitset_test

import (
	"math"
	"slices"
	"testing"

	"sentinel/api"
	"sentinel/bitset"
)

// numbers contains numbers within the range, at its ends, at the ends of words, and outside.
func numbers() []int {
	return []int{
		math.MinInt, math.MinInt32, -4096, -65, -64, -63, -1,
		0, 1, 2, 3, 31, 32, 62, 63, 64, 65, 70, 127, 128, 191, 4031, 4032, 4094, 4095,
		4096, 4097, 4159, 4160, 8192, 1 << 32, 1<<32 + 3, math.MaxInt,
	}
}

func canonical(s api.Set) bool {
	return len(s) <= 64 && (len(s) == 0 || s[len(s)-1] != 0)
}

// P1.1

func TestOf(t *testing.T) {
	for _, x := range []struct {
		list []int
		want api.Set
	}{
		{nil, nil},
		{[]int{0}, api.Set{1}},
		{[]int{63}, api.Set{1 << 63}},
		{[]int{64}, api.Set{0, 1}},
		{[]int{70, 3, 3, -1}, api.Set{8, 64}},
		{[]int{-1, 4096, math.MinInt, math.MaxInt}, nil},
		{[]int{5, 4, 3, 2, 1, 0}, api.Set{63}},
		{[]int{200, 1, 4096, 64}, api.Set{2, 1, 0, 256}},
	} {
		if s := bitset.Of(x.list...); !slices.Equal(s, x.want) {
			t.Errorf("Of(%d) = %d, want %d", x.list, s, x.want)
		}
	}
	greatest := bitset.Of(api.MaxElement)
	if len(greatest) != 64 || greatest[63] != 1<<63 || !slices.Equal(greatest[:63], make(api.Set, 63)) {
		t.Errorf("Of(%d) = %d", api.MaxElement, greatest)
	}
	if s := bitset.Of(); len(s) != 0 {
		t.Errorf("Of() = %d, want the empty set", s)
	}
}

func TestOfEachNumber(t *testing.T) {
	for _, k := range numbers() {
		var want []int
		if k >= 0 && k <= 4095 {
			want = []int{k}
		}
		if l := bitset.List(bitset.Of(k)); !slices.Equal(l, want) {
			t.Errorf("List(Of(%d)) = %d, want %d", k, l, want)
		}
	}
}

func TestCanonical(t *testing.T) {
	for _, x := range []struct{ in, want api.Set }{
		{nil, nil},
		{api.Set{}, nil},
		{api.Set{0, 0}, nil},
		{api.Set{2, 0, 0}, api.Set{2}},
		{api.Set{0, 2, 0}, api.Set{0, 2}},
		{append(make(api.Set, 64), 1), nil},
		{append(append(make(api.Set, 63), 9), 1), append(make(api.Set, 63), 9)},
	} {
		if s := bitset.Canonical(x.in); !slices.Equal(s, x.want) {
			t.Errorf("Canonical(%d) = %d, want %d", x.in, s, x.want)
		}
	}
	for _, s := range samples() {
		if c, want := bitset.Canonical(s), referenceOf(s).set(); !slices.Equal(c, want) {
			t.Errorf("Canonical(%d) = %d, want %d", s, c, want)
		}
	}
}

func TestList(t *testing.T) {
	for _, s := range samples() {
		if l, want := bitset.List(s), referenceOf(s).list(); !slices.Equal(l, want) {
			t.Errorf("List(%d) = %d, want %d", s, l, want)
		}
	}
}

func TestHas(t *testing.T) {
	for _, s := range samples() {
		r := referenceOf(s)
		for _, k := range numbers() {
			want := k >= 0 && k <= 4095 && r[k]
			if is := bitset.Has(s, k); is != want {
				t.Errorf("Has(%d, %d) = %t, want %t", s, k, is, want)
			}
		}
	}
}

func TestWithAndWithout(t *testing.T) {
	for _, s := range samples() {
		for _, k := range numbers() {
			with, without := referenceOf(s), referenceOf(s)
			if k >= 0 && k <= 4095 {
				with[k], without[k] = true, false
			}
			if x, want := bitset.With(s, k), with.set(); !slices.Equal(x, want) {
				t.Errorf("With(%d, %d) = %d, want %d", s, k, x, want)
			}
			if x, want := bitset.Without(s, k), without.set(); !slices.Equal(x, want) {
				t.Errorf("Without(%d, %d) = %d, want %d", s, k, x, want)
			}
		}
	}
}

// P1.2

func TestUnionIntersectMinus(t *testing.T) {
	for _, op := range []struct {
		name string
		got  func(a, b api.Set) api.Set
		want func(x, y bool) bool
	}{
		{"Union", bitset.Union, func(x, y bool) bool { return x || y }},
		{"Intersect", bitset.Intersect, func(x, y bool) bool { return x && y }},
		{"Minus", bitset.Minus, func(x, y bool) bool { return x && !y }},
	} {
		for _, a := range samples() {
			for _, b := range samples() {
				want := referenceOf(a).combine(referenceOf(b), op.want).set()
				if s := op.got(a, b); !slices.Equal(s, want) {
					t.Errorf("%s(%d, %d) = %d, want %d", op.name, a, b, s, want)
				}
			}
		}
	}
	if s := bitset.Minus(bitset.Of(3, 70), bitset.Of(70)); !slices.Equal(s, api.Set{8}) {
		t.Errorf("Minus(Of(3, 70), Of(70)) = %d, want [8]", s)
	}
}

func TestLenAndMin(t *testing.T) {
	for _, s := range samples() {
		want := referenceOf(s).list()
		if n := bitset.Len(s); n != len(want) {
			t.Errorf("Len(%d) = %d, want %d", s, n, len(want))
		}
		k, is := bitset.Min(s)
		if is != (len(want) > 0) || is && k != want[0] || !is && k != 0 {
			t.Errorf("Min(%d) = %d, %t, want the first of %d", s, k, is, want)
		}
	}
}

// P1.3

func TestSubsetEqualIntersects(t *testing.T) {
	for _, a := range samples() {
		for _, b := range samples() {
			r, q := referenceOf(a), referenceOf(b)
			if is, want := bitset.Subset(a, b), !r.some(q, func(x, y bool) bool { return x && !y }); is != want {
				t.Errorf("Subset(%d, %d) = %t, want %t", a, b, is, want)
			}
			if is, want := bitset.Equal(a, b), *r == *q; is != want {
				t.Errorf("Equal(%d, %d) = %t, want %t", a, b, is, want)
			}
			if is, want := bitset.Intersects(a, b), r.some(q, func(x, y bool) bool { return x && y }); is != want {
				t.Errorf("Intersects(%d, %d) = %t, want %t", a, b, is, want)
			}
		}
	}
}

func TestCompare(t *testing.T) {
	for _, x := range []struct {
		a, b []int
		want int
	}{
		{nil, nil, 0},
		{nil, []int{0}, -1},
		{[]int{1, 5}, []int{1}, 1},
		{[]int{0, 9}, []int{1}, -1},
		{[]int{2}, []int{1, 3}, 1},
		{[]int{1, 64}, []int{1, 63}, 1},
		{[]int{0, 4095}, []int{0, 100, 200}, 1},
		{[]int{3, 70}, []int{70, 3}, 0},
	} {
		if c := bitset.Compare(bitset.Of(x.a...), bitset.Of(x.b...)); c != x.want {
			t.Errorf("Compare(Of(%d), Of(%d)) = %d, want %d", x.a, x.b, c, x.want)
		}
	}
	for _, a := range samples() {
		for _, b := range samples() {
			want := slices.Compare(referenceOf(a).list(), referenceOf(b).list())
			if c := bitset.Compare(a, b); c != want {
				t.Errorf("Compare(%d, %d) = %d, want %d", a, b, c, want)
			}
		}
	}
}

func TestResultsAreCanonical(t *testing.T) {
	check := func(name string, s api.Set) {
		if !canonical(s) {
			t.Errorf("%s: %d is not canonical", name, s)
		}
	}
	for _, a := range samples() {
		check("Canonical", bitset.Canonical(a))
		for _, k := range numbers() {
			check("Of", bitset.Of(k, 3))
			check("With", bitset.With(a, k))
			check("Without", bitset.Without(a, k))
		}
		for _, b := range samples() {
			check("Union", bitset.Union(a, b))
			check("Intersect", bitset.Intersect(a, b))
			check("Minus", bitset.Minus(a, b))
		}
	}
}
