package diagram_test

import (
	"math"
	"slices"
	"testing"

	"sentinel/api"
	"sentinel/diagram"
)

// newStore returns a store that New must return.
func newStore(t *testing.T, vars, capacity int) *diagram.Store {
	t.Helper()
	s, e := diagram.New(vars, capacity)
	if e != api.OK || s == nil {
		t.Fatalf("New(%d, %d) returned the error %d", vars, capacity, e)
	}
	return s
}

// added returns the reference of a table that must fit in.
func added(t *testing.T, s *diagram.Store, table ...int) diagram.Ref {
	t.Helper()
	r, e := s.FromTable(table)
	if e != api.OK {
		t.Fatalf("FromTable(%d) returned the error %d", table, e)
	}
	return r
}

// checkTable checks the table of a result without an error.
func checkTable(t *testing.T, s *diagram.Store, r diagram.Ref, e api.Errno, want ...int) {
	t.Helper()
	if e != api.OK {
		t.Errorf("the error is %d, want the function %d", e, want)
		return
	}
	if table, e := s.Table(r); e != api.OK || !slices.Equal(table, want) {
		t.Errorf("Table(%d) = %d, %d, want %d", r, table, e, want)
	}
}

// checkNodes checks the number of nodes in a store.
func checkNodes(t *testing.T, s *diagram.Store, want int) {
	t.Helper()
	if n, e := s.Nodes(); n != want || e != api.OK {
		t.Errorf("Nodes = %d, %d, want %d", n, e, want)
	}
}

// checkError checks a result that must be an error.
func checkError(t *testing.T, name string, r diagram.Ref, e, want api.Errno) {
	t.Helper()
	if e != want || r != 0 {
		t.Errorf("%s = %d, %d, want the error %d", name, r, e, want)
	}
}

// checkFunction checks all that a store says of a function over vars variables.
func checkFunction(t *testing.T, s *diagram.Store, r diagram.Ref, f function, vars int) {
	t.Helper()
	if table, e := s.Table(r); e != api.OK || !slices.Equal(table, f.table(vars)) {
		t.Fatalf("Table(%d) = %d, %d, want %d", r, table, e, f.table(vars))
	}
	for x := range 256 {
		want, wantError := 0, api.ErrArg
		if x < 1<<vars {
			want, wantError = f[x], api.OK
		}
		if y, e := s.Eval(r, uint8(x)); y != want || e != wantError {
			t.Fatalf("Eval(%d, %d) = %d, %d, want %d, %d", r, x, y, e, want, wantError)
		}
	}
	if n, e := s.Size(r); n != len(places(f, vars)) || e != api.OK {
		t.Fatalf("Size of %d = %d, %d, want %d", f.table(vars), n, e, len(places(f, vars)))
	}
	for _, y := range append(f.table(vars), -9, 99, math.MinInt) {
		if n, e := s.Count(r, y); n != f.count(vars, y) || e != api.OK {
			t.Fatalf("Count of %d in %d = %d, %d, want %d", y, f.table(vars), n, e, f.count(vars, y))
		}
	}
}

// checkNoFunction checks that no method accepts a reference.
func checkNoFunction(t *testing.T, s *diagram.Store, r diagram.Ref) {
	t.Helper()
	if table, e := s.Table(r); e != api.ErrState || len(table) > 0 {
		t.Fatalf("Table(%d) = %d, %d, want the error %d", r, table, e, api.ErrState)
	}
	for _, x := range []uint8{0, 255} {
		if y, e := s.Eval(r, x); e != api.ErrState || y != 0 {
			t.Fatalf("Eval(%d, %d) = %d, %d, want the error %d", r, x, y, e, api.ErrState)
		}
	}
	if n, e := s.Size(r); e != api.ErrState || n != 0 {
		t.Fatalf("Size(%d) = %d, %d, want the error %d", r, n, e, api.ErrState)
	}
	if n, e := s.Count(r, 0); e != api.ErrState || n != 0 {
		t.Fatalf("Count(%d, 0) = %d, %d, want the error %d", r, n, e, api.ErrState)
	}
	for _, v := range []int{-1, 0, 99} {
		a, e := s.Restrict(r, v, true)
		checkError(t, "Restrict", a, e, api.ErrState)
		a, e = s.Exists(r, v)
		checkError(t, "Exists", a, e, api.ErrState)
	}
	a, e := s.Apply(diagram.Max, r, r)
	checkError(t, "Apply", a, e, api.ErrState)
}

// P3.1

func TestNew(t *testing.T) {
	for vars := -2; vars <= 9; vars++ {
		for _, capacity := range []int{math.MinInt, -1, 0, 1, 2, 4095, 4096, 4097, math.MaxInt} {
			want := api.OK
			switch {
			case vars < 0 || vars > 6:
				want = api.ErrVars
			case capacity < 1 || capacity > 4096:
				want = api.ErrArg
			}
			s, e := diagram.New(vars, capacity)
			if e != want || (s == nil) != (e != api.OK) {
				t.Errorf("New(%d, %d) = %v, %d, want the error %d", vars, capacity, s, e, want)
			}
			if e == api.OK {
				checkNodes(t, s, 0)
				if n := s.Vars(); n != vars {
					t.Errorf("Vars = %d, want %d", n, vars)
				}
			}
		}
	}
	for _, vars := range []int{math.MinInt, math.MaxInt} {
		if s, e := diagram.New(vars, 1); e != api.ErrVars || s != nil {
			t.Errorf("New(%d, 1) = %v, %d, want the error %d", vars, s, e, api.ErrVars)
		}
	}
}

func TestConstant(t *testing.T) {
	for vars := range 7 {
		s := newStore(t, vars, 5)
		m := newModel(vars, 5)
		for _, value := range []int{0, 1, -1, 0, math.MinInt, math.MaxInt, 1, 7, math.MaxInt} {
			r, e := s.Constant(value)
			m.checkAdded(t, s, functionOfTable([]int{value}), r, e)
		}
		m.checkAll(t, s)
	}
}

func TestFromTable(t *testing.T) {
	s := newStore(t, 2, 16)
	r := added(t, s, 0, 1, 1, 1)
	checkTable(t, s, r, api.OK, 0, 1, 1, 1)
	checkNodes(t, s, 4)
	q := added(t, s, 5, 4, 3, 2)
	checkTable(t, s, q, api.OK, 5, 4, 3, 2)
	checkNodes(t, s, 11)
	for vars := range 7 {
		s, m := newStore(t, vars, 4096), newModel(vars, 4096)
		draw := choice(vars)
		for range 40 {
			f := draw.function(vars)
			r, e := s.FromTable(f.table(vars))
			m.checkAdded(t, s, f, r, e)
		}
		m.checkAll(t, s)
	}
}

func TestFromTableOfAWrongLength(t *testing.T) {
	for vars := range 7 {
		s := newStore(t, vars, 1)
		added(t, s, make([]int, 1<<vars)...)
		for _, n := range []int{0, 1, 2, 3, 4, 5, 7, 8, 9, 16, 31, 32, 33, 63, 64, 65, 128, 256, 5000} {
			if n != 1<<vars {
				// No table but that of the constant fits in, which does not matter here.
				table := make([]int, n)
				for x := range table {
					table[x] = x
				}
				r, e := s.FromTable(table)
				checkError(t, "FromTable", r, e, api.ErrArg)
			}
		}
		r, e := s.FromTable(nil)
		checkError(t, "FromTable(nil)", r, e, api.ErrArg)
		checkNodes(t, s, 1)
	}
}

func TestFromCube(t *testing.T) {
	s := newStore(t, 2, 16)
	r, e := s.FromCube(api.Cube{Pos: 1, Neg: 2}, 7, -3)
	checkTable(t, s, r, e, -3, 7, -3, -3)
	r, e = s.FromCube(api.Cube{}, 7, -3)
	checkTable(t, s, r, e, 7, 7, 7, 7)
	r, e = s.FromCube(api.Cube{Pos: 3}, 5, 5)
	checkTable(t, s, r, e, 5, 5, 5, 5)
	for vars := range 7 {
		s, m := newStore(t, vars, 4096), newModel(vars, 4096)
		for pos := range 1 << vars {
			neg := (pos*pos + 5*pos + 9) % (1 << vars) &^ pos
			c := api.Cube{Pos: uint8(pos), Neg: uint8(neg)}
			f := functionOf(vars, func(x int) int {
				if x&pos == pos && x&neg == 0 {
					return 4
				}
				return 2
			})
			r, e := s.FromCube(c, 4, 2)
			m.checkAdded(t, s, f, r, e)
		}
		m.checkAll(t, s)
	}
}

func TestFromCubeErrors(t *testing.T) {
	for _, x := range []struct {
		c    api.Cube
		vars int
		want api.Errno
	}{
		{api.Cube{Pos: 1}, 0, api.ErrVars},
		{api.Cube{Neg: 1}, 0, api.ErrVars},
		{api.Cube{Pos: 4}, 2, api.ErrVars},
		{api.Cube{Pos: 5, Neg: 1}, 2, api.ErrVars},
		{api.Cube{Pos: 1, Neg: 5}, 2, api.ErrVars},
		{api.Cube{Pos: 3, Neg: 2}, 2, api.ErrForm},
		{api.Cube{Pos: 255, Neg: 255}, 6, api.ErrVars},
		{api.Cube{Pos: 63, Neg: 63}, 6, api.ErrForm},
		{api.Cube{Pos: 3}, 2, api.ErrBudget},
	} {
		s := newStore(t, x.vars, 1)
		r, e := s.FromCube(x.c, 1, 0)
		checkError(t, "FromCube", r, e, x.want)
		checkNodes(t, s, 0)
	}
}

// P3.2

func TestTableEvalSizeAndCount(t *testing.T) {
	s := newStore(t, 2, 16)
	or := added(t, s, 0, 1, 1, 1)
	for x, want := range []int{0, 1, 1, 1} {
		if y, e := s.Eval(or, uint8(x)); y != want || e != api.OK {
			t.Errorf("Eval(or, %d) = %d, %d, want %d", x, y, e, want)
		}
	}
	for _, x := range []uint8{4, 5, 128, 255} {
		if y, e := s.Eval(or, x); y != 0 || e != api.ErrArg {
			t.Errorf("Eval(or, %d) = %d, %d, want the error %d", x, y, e, api.ErrArg)
		}
	}
	for value, want := range map[int]int{0: 1, 1: 3, 2: 0, -1: 0, math.MaxInt: 0} {
		if n, e := s.Count(or, value); n != want || e != api.OK {
			t.Errorf("Count(or, %d) = %d, %d, want %d", value, n, e, want)
		}
	}
	for _, x := range []struct {
		table []int
		size  int
	}{
		{[]int{0, 1, 1, 1}, 4},
		{[]int{1, 1, 1, 1}, 1},
		{[]int{0, 1, 0, 1}, 3},
		{[]int{0, 0, 1, 1}, 3},
		{[]int{0, 1, 1, 0}, 5},
		{[]int{0, 1, 2, 3}, 7},
	} {
		if n, e := s.Size(added(t, s, x.table...)); n != x.size || e != api.OK {
			t.Errorf("Size of %d = %d, %d, want %d", x.table, n, e, x.size)
		}
	}
}

func TestTheLargestDiagrams(t *testing.T) {
	for vars := range 7 {
		s := newStore(t, vars, 2<<vars-1)
		f := functionOf(vars, func(x int) int { return 1000 - x })
		r := added(t, s, f.table(vars)...)
		if n, e := s.Size(r); n != 2<<vars-1 || e != api.OK {
			t.Errorf("Size of a function over %d variables with different values = %d, %d", vars, n, e)
		}
		checkFunction(t, s, r, f, vars)
	}
}

// Variable 0 is tested first, so the order of the variables matters.
func TestSizeDependsOnTheOrderOfTheVariables(t *testing.T) {
	s := newStore(t, 6, 4096)
	near, e := s.FromTable(functionOf(6, func(x int) int { return x&(x>>1)&1 | x>>2&(x>>3)&1 | x>>4&(x>>5)&1 }).table(6))
	far, f := s.FromTable(functionOf(6, func(x int) int { return x&(x>>3)&1 | x>>1&(x>>4)&1 | x>>2&(x>>5)&1 }).table(6))
	if e != api.OK || f != api.OK {
		t.Fatalf("FromTable returned the errors %d and %d", e, f)
	}
	n, _ := s.Size(near)
	k, _ := s.Size(far)
	if n != 8 || k != 16 {
		t.Errorf("the sizes are %d and %d, want 8 and 16", n, k)
	}
}

func TestAReferenceThatTheStoreDidNotReturn(t *testing.T) {
	s := newStore(t, 2, 16)
	for r := diagram.Ref(-20); r <= 20; r++ {
		checkNoFunction(t, s, r)
	}
	// The nodes of or for variable 1 and the leaves are no functions of the store.
	or := added(t, s, 0, 1, 1, 1)
	refs := []diagram.Ref{math.MinInt, math.MaxInt, 4096, 4097, 1 << 32, -1 << 32}
	for r := diagram.Ref(-20); r <= 20; r++ {
		refs = append(refs, r)
	}
	for _, r := range refs {
		if r != or {
			checkNoFunction(t, s, r)
			for _, pair := range [][2]diagram.Ref{{r, or}, {or, r}, {r, r}} {
				a, e := s.Apply(diagram.Min, pair[0], pair[1])
				checkError(t, "Apply", a, e, api.ErrState)
			}
		}
	}
	checkNodes(t, s, 4)
}

// P3.3

func TestApply(t *testing.T) {
	s := newStore(t, 1, 64)
	a, b := added(t, s, -6, 5), added(t, s, 3, 5)
	for op, want := range map[uint8][]int{1: {3, 5}, 2: {-6, 5}, 3: {-6 ^ 3, 0}, 4: {0, 1}} {
		for _, pair := range [][2]diagram.Ref{{a, b}, {b, a}} {
			r, e := s.Apply(op, pair[0], pair[1])
			checkTable(t, s, r, e, want...)
		}
	}
	a, b = added(t, s, math.MinInt, math.MaxInt), added(t, s, math.MaxInt, -1)
	for op, want := range map[uint8][]int{1: {math.MaxInt, math.MaxInt}, 2: {math.MinInt, -1}, 3: {-1, math.MinInt}, 4: {0, 0}} {
		r, e := s.Apply(op, a, b)
		checkTable(t, s, r, e, want...)
	}
}

func TestTheOperationsHaveTheirNumbers(t *testing.T) {
	if diagram.Max != 1 || diagram.Min != 2 || diagram.Xor != 3 || diagram.Equal != 4 {
		t.Error("an operation has another number")
	}
}

func TestApplyOfAnUnknownOperation(t *testing.T) {
	s := newStore(t, 2, 3)
	a := added(t, s, 0, 1, 0, 1)
	for op := range 256 {
		if 1 <= op && op <= 4 {
			continue
		}
		for _, r := range []diagram.Ref{a, 0, -1, math.MaxInt} {
			b, e := s.Apply(uint8(op), a, r)
			checkError(t, "Apply", b, e, api.ErrKind)
			b, e = s.Apply(uint8(op), r, a)
			checkError(t, "Apply", b, e, api.ErrKind)
		}
	}
	checkNodes(t, s, 3)
}

func TestRestrictAndExists(t *testing.T) {
	s := newStore(t, 2, 64)
	f := added(t, s, 4, 1, 3, 2)
	for _, x := range []struct {
		v     int
		value bool
		want  []int
	}{
		{0, false, []int{4, 4, 3, 3}},
		{0, true, []int{1, 1, 2, 2}},
		{1, false, []int{4, 1, 4, 1}},
		{1, true, []int{3, 2, 3, 2}},
	} {
		r, e := s.Restrict(f, x.v, x.value)
		checkTable(t, s, r, e, x.want...)
	}
	r, e := s.Exists(f, 0)
	checkTable(t, s, r, e, 4, 4, 3, 3)
	r, e = s.Exists(f, 1)
	checkTable(t, s, r, e, 4, 2, 4, 2)
}

func TestRestrictAndExistsOfNoVariable(t *testing.T) {
	for vars := range 7 {
		// The store is full, but the error for the variable comes first.
		s := newStore(t, vars, 1)
		r, _ := s.Constant(3)
		for _, v := range []int{math.MinInt, -1, vars, vars + 1, 6, 7, 8, 64, math.MaxInt} {
			for _, value := range []bool{false, true} {
				a, e := s.Restrict(r, v, value)
				checkError(t, "Restrict", a, e, api.ErrVars)
			}
			a, e := s.Exists(r, v)
			checkError(t, "Exists", a, e, api.ErrVars)
		}
		for v := range vars {
			if a, e := s.Restrict(r, v, true); e != api.OK || a != r {
				t.Errorf("Restrict(%d, %d, true) = %d, %d, want %d", r, v, a, e, r)
			}
			if a, e := s.Exists(r, v); e != api.OK || a != r {
				t.Errorf("Exists(%d, %d) = %d, %d, want %d", r, v, a, e, r)
			}
		}
	}
}

// A long series of calls does what it does in the model.
func TestSeriesOfCalls(t *testing.T) {
	for vars := range 7 {
		for _, capacity := range []int{1, 2, 3, 5, 9, 20, 50, 130, 400, 4096} {
			s, m := newStore(t, vars, capacity), newModel(vars, capacity)
			draw := choice(vars*5000 + capacity)
			for range 150 {
				f, r, e := step(s, m, &draw)
				m.checkAdded(t, s, f, r, e)
			}
			m.checkAll(t, s)
		}
	}
}

// step calls a method that adds a function, and returns the function and the results.
func step(s *diagram.Store, m *model, draw *choice) (function, diagram.Ref, api.Errno) {
	refs := make([]diagram.Ref, 0, len(m.byRef))
	for r := range m.byRef {
		refs = append(refs, r)
	}
	slices.Sort(refs)
	kind := draw.below(6)
	if len(refs) == 0 || m.vars == 0 && kind > 1 {
		kind = 0
	}
	if kind == 0 {
		f := draw.function(m.vars)
		r, e := s.FromTable(f.table(m.vars))
		return f, r, e
	}
	a := refs[draw.below(len(refs))]
	if kind <= 3 {
		op, b := uint8(1+draw.below(4)), refs[draw.below(len(refs))]
		r, e := s.Apply(op, a, b)
		return m.byRef[a].combined(m.byRef[b], operations[op]), r, e
	}
	v := draw.below(m.vars)
	if kind == 4 {
		value := draw.below(2) == 1
		r, e := s.Restrict(a, v, value)
		return m.byRef[a].restricted(v, value), r, e
	}
	r, e := s.Exists(a, v)
	return m.byRef[a].exists(v), r, e
}
