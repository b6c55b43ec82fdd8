package bitset_test

import (
	"slices"

	"sentinel/api"
)

// reference is a set as a plain table of all numbers, written without the package under test.
type reference [api.MaxElement + 1]bool

func referenceOf(s api.Set) *reference {
	var r reference
	for k := range r {
		r[k] = k/64 < len(s) && s[k/64]>>(k%64)&1 == 1
	}
	return &r
}

func (r *reference) list() []int {
	var l []int
	for k, is := range r {
		if is {
			l = append(l, k)
		}
	}
	return l
}

func (r *reference) set() api.Set {
	words := make(api.Set, 64)
	last := -1
	for k, is := range r {
		if is {
			words[k/64] |= 1 << (k % 64)
			last = k / 64
		}
	}
	return words[:last+1]
}

func (r *reference) combine(t *reference, op func(x, y bool) bool) *reference {
	var c reference
	for k := range c {
		c[k] = op(r[k], t[k])
	}
	return &c
}

func (r *reference) some(t *reference, op func(x, y bool) bool) bool {
	return slices.Contains(r.combine(t, op)[:], true)
}

// samples returns sets of all kinds: empty, dense, sparse, not canonical, and too long.
func samples() []api.Set {
	full := slices.Repeat(api.Set{^uint64(0)}, 64)
	long := append(make(api.Set, 64), 1, 2, ^uint64(0))
	last := make(api.Set, 64)
	last[63] = 1 << 63
	s := []api.Set{
		nil, {}, {0}, {0, 0, 0}, {1}, {2}, {3}, {1 << 63}, {0, 1}, {1, 1},
		{8, 64}, {8, 64, 0}, {8, 0, 0}, {^uint64(0)}, {0, ^uint64(0), 0, 5},
		make(api.Set, 64), make(api.Set, 70), long, last, full,
		append(slices.Clone(last), 7), append(slices.Clone(full), 0), append(slices.Clone(full), 1),
		append(slices.Clone(full[:63]), 1<<63-1),
	}
	x := uint64(1)
	for n := range 12 {
		var mixed api.Set
		for range 3 * n % 7 {
			x = x*6364136223846793005 + 1442695040888963407
			mixed = append(mixed, x&(x>>7)&(x<<5))
		}
		s = append(s, mixed)
	}
	return s
}
