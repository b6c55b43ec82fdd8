package diagram_test

import (
	"slices"
	"testing"

	"sentinel/api"
	"sentinel/diagram"
)

// full returns a store whose only function fills it, and the reference.
func full(t *testing.T, vars, capacity int, table ...int) (*diagram.Store, diagram.Ref) {
	t.Helper()
	s := newStore(t, vars, capacity)
	r := added(t, s, table...)
	checkNodes(t, s, capacity)
	return s, r
}

// checkUnchanged checks that a store contains only the function that fills it.
func checkUnchanged(t *testing.T, s *diagram.Store, capacity int, r diagram.Ref, table ...int) {
	t.Helper()
	checkNodes(t, s, capacity)
	checkFunction(t, s, r, functionOfTable(table), s.Vars())
	for q := r - 20; q < r+100; q++ {
		if q != r {
			checkNoFunction(t, s, q)
		}
	}
	if again := added(t, s, table...); again != r {
		t.Errorf("the reference of %d was %d and is %d", table, r, again)
	}
}

func TestEveryMethodThatAddsKeepsTheCapacity(t *testing.T) {
	// a xor b xor c, and c or not c if b, depending on a.
	parity := []int{0, 1, 1, 0, 1, 0, 0, 1}
	chosen := []int{0, 0, 1, 0, 0, 0, 0, 1}
	for _, x := range []struct {
		name  string
		table []int
		add   func(s *diagram.Store, r diagram.Ref) (diagram.Ref, api.Errno)
	}{
		{"Constant", parity, func(s *diagram.Store, r diagram.Ref) (diagram.Ref, api.Errno) { return s.Constant(2) }},
		{"FromTable", parity, func(s *diagram.Store, r diagram.Ref) (diagram.Ref, api.Errno) { return s.FromTable(chosen) }},
		{"FromCube", parity, func(s *diagram.Store, r diagram.Ref) (diagram.Ref, api.Errno) {
			return s.FromCube(api.Cube{Pos: 1}, 1, 0)
		}},
		{"Restrict", parity, func(s *diagram.Store, r diagram.Ref) (diagram.Ref, api.Errno) { return s.Restrict(r, 1, true) }},
		{"Exists", chosen, func(s *diagram.Store, r diagram.Ref) (diagram.Ref, api.Errno) { return s.Exists(r, 1) }},
	} {
		s, r := full(t, 3, 7, x.table...)
		q, e := x.add(s, r)
		checkError(t, x.name, q, e, api.ErrBudget)
		checkUnchanged(t, s, 7, r, x.table...)
		// The result needs one or, for FromTable, three more nodes.
		s = newStore(t, 3, 10)
		r = added(t, s, x.table...)
		if q, e = x.add(s, r); e != api.OK || q == 0 {
			t.Errorf("%s in a larger store = %d, %d, want no error", x.name, q, e)
		}
	}
}

func TestApplyKeepsTheCapacity(t *testing.T) {
	for op := range operations {
		s := newStore(t, 2, 4)
		a, b := added(t, s, 0, 1, 0, 1), added(t, s, 0, 0, 1, 1)
		r, e := s.Apply(op, a, b)
		checkError(t, "Apply", r, e, api.ErrBudget)
		checkNodes(t, s, 4)
		checkTable(t, s, a, api.OK, 0, 1, 0, 1)
		checkTable(t, s, b, api.OK, 0, 0, 1, 1)
		for _, q := range []diagram.Ref{a, b} {
			if r, e := s.Apply(diagram.Max, q, q); r != q || e != api.OK {
				t.Errorf("Apply(Max) of a function and itself = %d, %d, want %d", r, e, q)
			}
		}
	}
}

func TestTheResultMayReachTheCapacity(t *testing.T) {
	for vars := range 7 {
		draw := choice(vars)
		for range 30 {
			f := draw.function(vars)
			size := len(places(f, vars))
			s := newStore(t, vars, size)
			r, e := s.FromTable(f.table(vars))
			if e != api.OK {
				t.Errorf("FromTable of %d with the capacity %d returned the error %d", f.table(vars), size, e)
			}
			checkFunction(t, s, r, f, vars)
			if size > 1 {
				s = newStore(t, vars, size-1)
				r, e = s.FromTable(f.table(vars))
				checkError(t, "FromTable", r, e, api.ErrBudget)
				checkNodes(t, s, 0)
			}
		}
	}
}

// Both restrictions of a xor b need a new node, but their maximum does not.
func TestIntermediateResultsAreNotCounted(t *testing.T) {
	s, r := full(t, 2, 5, 0, 1, 1, 0)
	q, e := s.Restrict(r, 1, false)
	checkError(t, "Restrict", q, e, api.ErrBudget)
	q, e = s.Exists(r, 1)
	checkTable(t, s, q, e, 1, 1, 1, 1)
	checkNodes(t, s, 5)
}

// After an error the nodes of the rejected function are neither found nor counted.
func TestARejectedFunctionLeavesNothing(t *testing.T) {
	s := newStore(t, 2, 3)
	for _, table := range [][]int{{0, 1, 1, 1}, {2, 3, 4, 5}, {0, 1, 1, 0}} {
		r, e := s.FromTable(table)
		checkError(t, "FromTable", r, e, api.ErrBudget)
		checkNodes(t, s, 0)
	}
	r := added(t, s, 3, 2, 3, 2)
	checkUnchanged(t, s, 3, r, 3, 2, 3, 2)
	for _, table := range [][]int{{2, 2, 3, 3}, {1, 1, 1, 1}, {0, 1, 1, 1}} {
		q, e := s.FromTable(table)
		checkError(t, "FromTable", q, e, api.ErrBudget)
		checkUnchanged(t, s, 3, r, 3, 2, 3, 2)
	}
	q := added(t, s, 2, 2, 2, 2)
	checkTable(t, s, q, api.OK, 2, 2, 2, 2)
	checkNodes(t, s, 3)
}

// A store takes as many nodes as New allows, and no more.
func TestTheGreatestCapacity(t *testing.T) {
	s := newStore(t, 6, 4096)
	refs := []diagram.Ref{}
	for n := range 4096 {
		r, e := s.Constant(n)
		if e != api.OK {
			t.Fatalf("Constant(%d) returned the error %d", n, e)
		}
		refs = append(refs, r)
	}
	checkNodes(t, s, 4096)
	r, e := s.Constant(-1)
	checkError(t, "Constant", r, e, api.ErrBudget)
	r, e = s.Apply(diagram.Xor, refs[4000], refs[95])
	if e != api.OK || r != refs[4095] {
		t.Errorf("Apply(Xor) of 4000 and 95 = %d, %d, want %d", r, e, refs[4095])
	}
	slices.Sort(refs)
	if len(slices.Compact(refs)) != 4096 {
		t.Error("two constants have the same reference")
	}
}
