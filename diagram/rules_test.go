package diagram_test

import (
	"math"
	"slices"
	"testing"

	"sentinel/api"
	"sentinel/diagram"
)

// checkNoStore checks that every method returns ErrNil, whatever its arguments are, and Vars 0.
func checkNoStore(t *testing.T, s *diagram.Store, r diagram.Ref) {
	t.Helper()
	if n := s.Vars(); n != 0 {
		t.Errorf("Vars = %d, want 0", n)
	}
	checkValue := func(name string, value int, e api.Errno) {
		t.Helper()
		if value != 0 || e != api.ErrNil {
			t.Errorf("%s = %d, %d, want the error %d", name, value, e, api.ErrNil)
		}
	}
	for _, r := range []diagram.Ref{r, 0, -1, math.MaxInt} {
		n, e := s.Nodes()
		checkValue("Nodes", n, e)
		n, e = s.Eval(r, 255)
		checkValue("Eval", n, e)
		n, e = s.Size(r)
		checkValue("Size", n, e)
		n, e = s.Count(r, 0)
		checkValue("Count", n, e)
		table, e := s.Table(r)
		checkValue("Table", len(table), e)
		q, e := s.Constant(1)
		checkValue("Constant", int(q), e)
		q, e = s.FromTable([]int{0, 1})
		checkValue("FromTable", int(q), e)
		q, e = s.FromTable(nil)
		checkValue("FromTable", int(q), e)
		q, e = s.FromCube(api.Cube{Pos: 255, Neg: 255}, 1, 0)
		checkValue("FromCube", int(q), e)
		q, e = s.FromCube(api.Cube{}, 1, 0)
		checkValue("FromCube", int(q), e)
		q, e = s.Apply(9, r, r)
		checkValue("Apply", int(q), e)
		q, e = s.Apply(1, r, r)
		checkValue("Apply", int(q), e)
		q, e = s.Restrict(r, -1, true)
		checkValue("Restrict", int(q), e)
		q, e = s.Exists(r, 0)
		checkValue("Exists", int(q), e)
	}
}

func TestAStoreThatNewDidNotReturn(t *testing.T) {
	checkNoStore(t, nil, 1)
	checkNoStore(t, &diagram.Store{}, 1)
	failed, _ := diagram.New(7, 1)
	checkNoStore(t, failed, 1)
	s := newStore(t, 1, 9)
	r := added(t, s, 0, 1)
	taken := *s
	checkNoStore(t, &taken, r)
	// Assigning the copy back does not undo what happened in between.
	q := added(t, s, 2, 3)
	*s = taken
	checkTable(t, s, r, api.OK, 0, 1)
	checkTable(t, s, q, api.OK, 2, 3)
	checkNodes(t, s, 6)
	other := newStore(t, 1, 9)
	*other = *s
	checkNoStore(t, other, r)
	checkTable(t, s, added(t, s, 1, 0), api.OK, 1, 0)
	*s = diagram.Store{}
	checkNoStore(t, s, r)
}

// R1: no method panics, and without an error the results are functions of the store.
func TestNoMethodPanics(t *testing.T) {
	numbers := []int{math.MinInt, -1, 0, 1, 2, 3, 5, 6, 7, 63, 64, 255, 4096, math.MaxInt}
	for vars := range 7 {
		s := newStore(t, vars, 40)
		for _, n := range numbers {
			s.Constant(n)
			s.FromTable(make([]int, min(max(n, 0), 1000)))
			s.FromCube(api.Cube{Pos: uint8(n), Neg: uint8(n >> 1)}, n, -n)
			for _, k := range numbers {
				s.Eval(diagram.Ref(n), uint8(k))
				s.Count(diagram.Ref(n), k)
				s.Exists(diagram.Ref(n), k)
				s.Restrict(diagram.Ref(n), k, true)
				s.Restrict(diagram.Ref(n), k, false)
				for op := range 6 {
					s.Apply(uint8(op), diagram.Ref(n), diagram.Ref(k))
				}
			}
			s.Table(diagram.Ref(n))
			s.Size(diagram.Ref(n))
		}
		if n, e := s.Nodes(); n > 40 || e != api.OK {
			t.Errorf("Nodes = %d, %d with the capacity 40", n, e)
		}
	}
}

// R2: the errors are checked in their order.
func TestTheOrderOfTheErrors(t *testing.T) {
	s := newStore(t, 1, 3)
	r := added(t, s, 0, 1)
	_, wrongTable := s.FromTable([]int{7, 8, 9})
	_, newTable := s.FromTable([]int{7, 8})
	_, wrongCube := s.FromCube(api.Cube{Pos: 3, Neg: 1}, 7, 8)
	_, sharedBit := s.FromCube(api.Cube{Pos: 1, Neg: 1}, 7, 8)
	_, newCube := s.FromCube(api.Cube{Pos: 1}, 7, 8)
	_, noStateLetter := s.Eval(r+9, 200)
	_, noLetter := s.Eval(r, 2)
	_, noOperation := s.Apply(0, r+9, r)
	_, noState := s.Apply(4, r, r+9)
	_, noStateVariable := s.Restrict(r+9, 1, true)
	_, noVariable := s.Restrict(r, 1, true)
	_, noStateExists := s.Exists(r+9, -1)
	_, noExists := s.Exists(r, -1)
	got := []api.Errno{wrongTable, newTable, wrongCube, sharedBit, newCube, noStateLetter, noLetter, noOperation, noState, noStateVariable, noVariable, noStateExists, noExists}
	want := []api.Errno{api.ErrArg, api.ErrBudget, api.ErrVars, api.ErrForm, api.ErrBudget, api.ErrState, api.ErrArg, api.ErrKind, api.ErrState, api.ErrState, api.ErrVars, api.ErrState, api.ErrVars}
	if !slices.Equal(got, want) {
		t.Errorf("the errors are %d, want %d", got, want)
	}
	checkNodes(t, s, 3)
}

// R3: a store neither changes nor keeps a table, and reads it only up to its length.
func TestTablesAreNotShared(t *testing.T) {
	s := newStore(t, 1, 9)
	memory := []int{4, 5, 6, 7}
	r := added(t, s, memory[:2]...)
	if !slices.Equal(memory, []int{4, 5, 6, 7}) {
		t.Errorf("the memory of the argument has become %d", memory)
	}
	memory[0] = 9
	checkTable(t, s, r, api.OK, 4, 5)
	first, _ := s.Table(r)
	second, _ := s.Table(r)
	first = first[:cap(first)]
	for i := range first {
		first[i] = 8
	}
	if !slices.Equal(second, []int{4, 5}) {
		t.Errorf("changing one table changes another to %d", second)
	}
	checkTable(t, s, r, api.OK, 4, 5)
	q, e := s.FromTable(memory[:1])
	checkError(t, "FromTable", q, e, api.ErrArg)
}

// P1: stores do not influence each other, and the methods that only ask do not change one.
func TestStoresAreSeparate(t *testing.T) {
	a, b := newStore(t, 2, 9), newStore(t, 2, 9)
	p := added(t, a, 0, 1, 1, 1)
	checkNodes(t, b, 0)
	checkNoFunction(t, b, p)
	q := added(t, b, 5, 5, 6, 7)
	checkFunction(t, a, p, functionOfTable([]int{0, 1, 1, 1}), 2)
	checkFunction(t, b, q, functionOfTable([]int{5, 5, 6, 7}), 2)
	checkNodes(t, a, 4)
	checkNodes(t, b, 6)
}
