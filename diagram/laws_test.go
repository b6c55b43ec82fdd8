package diagram_test

import (
	"testing"

	"sentinel/api"
	"sentinel/diagram"
)

// smallFunctions returns the functions over two variables with values below 3.
func smallFunctions() []function {
	var l []function
	for n := range 81 {
		l = append(l, functionOfTable([]int{n % 3, n / 3 % 3, n / 9 % 3, n / 27}))
	}
	return l
}

// want returns a reference that must come without an error.
func want(t *testing.T) func(r diagram.Ref, e api.Errno) diagram.Ref {
	return func(r diagram.Ref, e api.Errno) diagram.Ref {
		t.Helper()
		if e != api.OK {
			t.Fatalf("the error is %d, want none", e)
		}
		return r
	}
}

// samples returns functions of a store over vars variables.
func samples(t *testing.T, s *diagram.Store, vars, n int) []diagram.Ref {
	draw := choice(vars + 77)
	var l []diagram.Ref
	for range n {
		l = append(l, want(t)(s.FromTable(draw.function(vars).table(vars))))
	}
	return l
}

// P3.4

func TestEqualFunctionsHaveEqualReferences(t *testing.T) {
	s, m := newStore(t, 2, 4096), newModel(2, 4096)
	for _, f := range smallFunctions() {
		r, e := s.FromTable(f.table(2))
		m.checkAdded(t, s, f, r, e)
	}
	for f, a := range m.functions {
		for v := range 2 {
			for _, value := range []bool{false, true} {
				if r := want(t)(s.Restrict(a, v, value)); r != m.functions[f.restricted(v, value)] {
					t.Errorf("Restrict(%d, %d, %t) = %d, want %d", f.table(2), v, value, r, m.functions[f.restricted(v, value)])
				}
			}
			if r := want(t)(s.Exists(a, v)); r != m.functions[f.exists(v)] {
				t.Errorf("Exists(%d, %d) = %d, want %d", f.table(2), v, r, m.functions[f.exists(v)])
			}
		}
	}
	for f, a := range m.functions {
		for g, b := range m.functions {
			for op, combine := range operations {
				h := f.combined(g, combine)
				r := want(t)(s.Apply(op, a, b))
				// Xor may give the value 3, so some functions are new.
				if old, is := m.functions[h]; is && r != old {
					t.Fatalf("Apply(%d, %d, %d) = %d, want %d", op, f.table(2), g.table(2), r, old)
				}
			}
		}
	}
}

func TestTheSameFunctionOfEveryMethod(t *testing.T) {
	s := newStore(t, 3, 64)
	a := added(t, s, 0, 1, 0, 1, 0, 1, 0, 1)
	b := want(t)(s.FromCube(api.Cube{Pos: 2}, 1, 0))
	both := added(t, s, 0, 0, 0, 1, 0, 0, 0, 1)
	one, zero := want(t)(s.Constant(1)), want(t)(s.Constant(0))
	for name, pair := range map[string][2]diagram.Ref{
		"a as a cube":     {a, want(t)(s.FromCube(api.Cube{Pos: 1}, 1, 0))},
		"not a inverted":  {a, want(t)(s.FromCube(api.Cube{Neg: 1}, 0, 1))},
		"a and b":         {both, want(t)(s.FromCube(api.Cube{Pos: 3}, 1, 0))},
		"minimum":         {both, want(t)(s.Apply(diagram.Min, a, b))},
		"a or a":          {a, want(t)(s.Apply(diagram.Max, a, a))},
		"a equals 1":      {a, want(t)(s.Apply(diagram.Equal, a, one))},
		"b is 1":          {a, want(t)(s.Restrict(both, 1, true))},
		"there is a b":    {a, want(t)(s.Exists(both, 1))},
		"a xor a":         {zero, want(t)(s.Apply(diagram.Xor, a, a))},
		"a cube inverted": {one, want(t)(s.FromCube(api.Cube{Neg: 5}, 1, 1))},
		"constant table":  {one, added(t, s, 1, 1, 1, 1, 1, 1, 1, 1)},
		"neither":         {one, want(t)(s.Exists(want(t)(s.Exists(both, 0)), 1))},
	} {
		if pair[0] != pair[1] {
			t.Errorf("%s: the references are %d and %d", name, pair[0], pair[1])
		}
	}
	if a == b || a == both || a == one || one == zero {
		t.Error("different functions have the same reference")
	}
}

// P3.5

func TestAFunctionIsDeterminedByItsRestrictions(t *testing.T) {
	for vars := 1; vars <= 6; vars++ {
		s := newStore(t, vars, 4096)
		refs := samples(t, s, vars, 12)
		for v := range vars {
			byParts := map[[2]diagram.Ref]diagram.Ref{}
			for _, r := range refs {
				parts := [2]diagram.Ref{want(t)(s.Restrict(r, v, false)), want(t)(s.Restrict(r, v, true))}
				if old, is := byParts[parts]; is && old != r {
					t.Errorf("the functions %d and %d have the same restrictions of variable %d", old, r, v)
				}
				byParts[parts] = r
				if joined := join(t, s, v, parts); joined != r {
					t.Errorf("the restrictions of %d of variable %d yield %d", r, v, joined)
				}
			}
		}
	}
}

// join returns the function with the given restrictions of variable v.
func join(t *testing.T, s *diagram.Store, v int, parts [2]diagram.Ref) diagram.Ref {
	low, e := s.Table(parts[0])
	high, f := s.Table(parts[1])
	if e != api.OK || f != api.OK {
		t.Fatalf("Table returned the errors %d and %d", e, f)
	}
	for x := range low {
		if x>>v%2 == 1 {
			low[x] = high[x]
		}
	}
	return want(t)(s.FromTable(low))
}

func TestOperationsCommuteWithRestriction(t *testing.T) {
	for vars := 1; vars <= 6; vars++ {
		draw := choice(vars + 31)
		for range 12 {
			f, g := draw.function(vars), draw.function(vars)
			for op := range operations {
				s := newStore(t, vars, 4096)
				a := want(t)(s.FromTable(f.table(vars)))
				b := want(t)(s.FromTable(g.table(vars)))
				for v := range vars {
					checkCommutes(t, s, op, a, b, v)
				}
			}
		}
	}
}

// checkCommutes checks that restricting the result of an operation is the operation on the restrictions.
func checkCommutes(t *testing.T, s *diagram.Store, op uint8, a, b diagram.Ref, v int) {
	t.Helper()
	both := want(t)(s.Apply(op, a, b))
	for _, value := range []bool{false, true} {
		left := want(t)(s.Restrict(both, v, value))
		right := want(t)(s.Apply(op, want(t)(s.Restrict(a, v, value)), want(t)(s.Restrict(b, v, value))))
		if left != right {
			t.Errorf("operation %d and variable %d = %t yield %d and %d", op, v, value, left, right)
		}
	}
}

func TestExistsIsTheMaximumOfTheRestrictions(t *testing.T) {
	for vars := 1; vars <= 6; vars++ {
		s := newStore(t, vars, 4096)
		for _, r := range samples(t, s, vars, 10) {
			for v := range vars {
				low, high := want(t)(s.Restrict(r, v, false)), want(t)(s.Restrict(r, v, true))
				exists := want(t)(s.Exists(r, v))
				if larger := want(t)(s.Apply(diagram.Max, low, high)); exists != larger {
					t.Errorf("Exists(%d, %d) = %d, but the maximum is %d", r, v, exists, larger)
				}
				for _, value := range []bool{false, true} {
					for _, part := range []diagram.Ref{low, high, exists} {
						if again := want(t)(s.Restrict(part, v, value)); again != part {
							t.Errorf("%d depends on variable %d", part, v)
						}
					}
				}
			}
		}
	}
}

// P3.6

func TestSizeIsTheNumberOfSubfunctions(t *testing.T) {
	for vars := range 7 {
		s := newStore(t, vars, 4096)
		draw := choice(vars)
		for range 25 {
			f := draw.function(vars)
			subfunctions := map[function]bool{f: true}
			layer := []function{f}
			for k := range vars {
				var next []function
				for _, g := range layer {
					next = append(next, g.restricted(k, false), g.restricted(k, true))
				}
				layer = next
				for _, g := range layer {
					subfunctions[g] = true
				}
			}
			if n, e := s.Size(want(t)(s.FromTable(f.table(vars)))); n != len(subfunctions) || e != api.OK {
				t.Errorf("Size of %d = %d, %d, want %d", f.table(vars), n, e, len(subfunctions))
			}
		}
	}
}

func TestNodesNeverDecreases(t *testing.T) {
	for vars := range 7 {
		for _, capacity := range []int{6, 60, 600} {
			s, m := newStore(t, vars, capacity), newModel(vars, capacity)
			draw := choice(vars + capacity)
			before := 0
			for range 60 {
				f, r, e := step(s, m, &draw)
				m.checkAdded(t, s, f, r, e)
				after, _ := s.Nodes()
				if after < before || after > capacity {
					t.Errorf("Nodes went from %d to %d, with the capacity %d", before, after, capacity)
				}
				before = after
			}
			for f, r := range m.functions {
				if again := want(t)(s.FromTable(f.table(vars))); again != r {
					t.Errorf("%d had the reference %d and has %d", f.table(vars), r, again)
				}
				checkNodes(t, s, before)
			}
		}
	}
}
