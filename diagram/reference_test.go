package diagram_test

import (
	"testing"

	"sentinel/api"
	"sentinel/diagram"
)

// function is a function over at most six variables, as a function of six: it does not depend on those that do not exist.
type function [64]int

// functionOf returns the function with the given values of the letters.
func functionOf(vars int, value func(x int) int) function {
	var f function
	for x := range f {
		f[x] = value(x % (1 << vars))
	}
	return f
}

// functionOfTable returns the function of a table with 2^vars elements.
func functionOfTable(t []int) function {
	var f function
	for x := range f {
		f[x] = t[x%len(t)]
	}
	return f
}

// table returns the values for the letters.
func (f function) table(vars int) []int {
	return append([]int(nil), f[:1<<vars]...)
}

// restricted returns the function in which variable k is fixed.
func (f function) restricted(k int, value bool) function {
	var g function
	for x := range g {
		y := x - x>>k%2<<k
		if value {
			y += 1 << k
		}
		g[x] = f[y]
	}
	return g
}

// combined returns the function whose values are computed from those of f and g.
func (f function) combined(g function, op func(x, y int) int) function {
	for x := range f {
		f[x] = op(f[x], g[x])
	}
	return f
}

// exists returns the maximum for both values of variable k.
func (f function) exists(k int) function {
	return f.restricted(k, false).combined(f.restricted(k, true), largest)
}

// dependsOn reports whether f really depends on variable k.
func (f function) dependsOn(k int) bool {
	return f.restricted(k, false) != f.restricted(k, true)
}

// count returns the number of letters with the given value.
func (f function) count(vars, value int) int {
	n := 0
	for _, y := range f.table(vars) {
		if y == value {
			n++
		}
	}
	return n
}

func largest(x, y int) int {
	if x < y {
		return y
	}
	return x
}

func smallest(x, y int) int {
	if x > y {
		return y
	}
	return x
}

// xor adds bit by bit without carry, which the difference of or and and does as well.
func xor(x, y int) int {
	return (x | y) - (x & y)
}

func equal(x, y int) int {
	if x == y {
		return 1
	}
	return 0
}

// operations are the operations of Apply by their numbers.
var operations = map[uint8]func(x, y int) int{1: largest, 2: smallest, 3: xor, 4: equal}

// place is a node of a diagram by its definition: a subfunction and the variable that it tests, or -1 in a leaf.
type place struct {
	variable int
	f        function
}

// places returns the nodes of the diagram of f over vars variables.
func places(f function, vars int) map[place]bool {
	nodes := map[place]bool{}
	for _, y := range f.table(vars) {
		nodes[place{-1, functionOfTable([]int{y})}] = true
	}
	subfunctions := map[function]bool{f: true}
	for k := range vars {
		next := map[function]bool{}
		for g := range subfunctions {
			if g.dependsOn(k) {
				nodes[place{k, g}] = true
			}
			next[g.restricted(k, false)] = true
			next[g.restricted(k, true)] = true
		}
		subfunctions = next
	}
	return nodes
}

// model is what a store should be.
type model struct {
	vars, capacity int
	functions      map[function]diagram.Ref
	byRef          map[diagram.Ref]function
	nodes          map[place]bool
}

func newModel(vars, capacity int) *model {
	return &model{vars, capacity, map[function]diagram.Ref{}, map[diagram.Ref]function{}, map[place]bool{}}
}

// room returns the error of adding f, and the nodes of the store with it.
func (m *model) room(f function) (map[place]bool, api.Errno) {
	nodes := places(f, m.vars)
	for n := range m.nodes {
		nodes[n] = true
	}
	if len(nodes) > m.capacity {
		return m.nodes, api.ErrBudget
	}
	return nodes, api.OK
}

// checkAdded checks the result of a method that should have added f.
func (m *model) checkAdded(t *testing.T, s *diagram.Store, f function, r diagram.Ref, e api.Errno) {
	t.Helper()
	nodes, want := m.room(f)
	if e != want || e != api.OK && r != 0 {
		t.Fatalf("adding %d returned %d, %d, want the error %d", f.table(m.vars), r, e, want)
	}
	m.nodes = nodes
	if n, e := s.Nodes(); n != len(nodes) || e != api.OK {
		t.Fatalf("Nodes = %d, %d after adding %d, want %d", n, e, f.table(m.vars), len(nodes))
	}
	if want != api.OK {
		return
	}
	if old, is := m.functions[f]; is && old != r {
		t.Fatalf("%d has the references %d and %d", f.table(m.vars), old, r)
	}
	if old, is := m.byRef[r]; is && old != f {
		t.Fatalf("the reference %d denotes %d and %d", r, old.table(m.vars), f.table(m.vars))
	}
	m.functions[f] = r
	m.byRef[r] = f
}

// checkAll checks what the store says of its functions, and that it has no others.
func (m *model) checkAll(t *testing.T, s *diagram.Store) {
	t.Helper()
	for r := diagram.Ref(-3); r < diagram.Ref(len(m.nodes)+200); r++ {
		if f, is := m.byRef[r]; is {
			checkFunction(t, s, r, f, m.vars)
		} else {
			checkNoFunction(t, s, r)
		}
	}
	for r, f := range m.byRef {
		checkFunction(t, s, r, f, m.vars)
	}
}

// choice is a source of numbers that is the same in each run.
type choice uint64

// below returns a number from 0 to n - 1.
func (c *choice) below(n int) int {
	*c = *c*6364136223846793005 + 1442695040888963407
	return int(uint64(*c) >> 33 % uint64(n))
}

// function returns a function with few values that often ignores variables.
func (c *choice) function(vars int) function {
	values := 1 + c.below(4)
	shift := c.below(5) - 2
	ignored := c.below(1<<vars) & c.below(1<<vars)
	drawn := [64]int{}
	for x := range drawn {
		drawn[x] = c.below(values) + shift
	}
	return functionOf(vars, func(x int) int { return drawn[x&^ignored] })
}
