package diagram

import "sentinel/api"

// node is a node of a diagram. Two nodes are equal exactly if they denote the same function.
type node struct {
	variable  int // the variable that it tests; in a leaf the number of variables
	low, high Ref // where it leads if the variable is 0 or 1; 0 in a leaf
	value     int // the value of a leaf, otherwise 0
}

// contents is what a store keeps. It lies behind one pointer, so that copying
// and assigning stores cannot separate its parts from each other.
type contents struct {
	owner          *Store
	vars, capacity int
	nodes          []node       // node r is at the index r - 1
	refs           map[node]Ref // the references of the nodes
	returned       map[Ref]bool // the nodes that are functions of the store
}

// open returns the contents of a store that New returned, if it has returned the given references.
func (s *Store) open(refs ...Ref) (*contents, api.Errno) {
	// A copy of a store has its contents, but New did not return it.
	if s == nil || s.kept == nil || s.kept.owner != s {
		return nil, api.ErrNil
	}
	if e := s.kept.check(refs...); e != api.OK {
		return nil, e
	}
	return s.kept, api.OK
}

// check returns whether the store has returned the given references.
func (c *contents) check(refs ...Ref) api.Errno {
	for _, r := range refs {
		if !c.returned[r] {
			return api.ErrState
		}
	}
	return api.OK
}

// letters returns the number of letters.
func (c *contents) letters() int {
	return 1 << c.vars
}

// isVariable reports whether v is a variable.
func (c *contents) isVariable(v int) bool {
	return 0 <= v && v < c.vars
}

// fix returns the letter x with the given value of variable v.
func fix(x uint8, v int, value bool) uint8 {
	if value {
		return x | 1<<v
	}
	return x &^ (1 << v)
}

// add returns the function with the given values of the letters, if its nodes fit in.
func (c *contents) add(value func(x uint8) int) (Ref, api.Errno) {
	before := len(c.nodes)
	r := c.build(value)
	if len(c.nodes) > c.capacity {
		c.forget(before)
		return 0, api.ErrBudget
	}
	c.returned[r] = true
	return r, api.OK
}

// build returns the root of the diagram of the function with the given values of the letters.
func (c *contents) build(value func(x uint8) int) Ref {
	// sub returns the root for the letters that agree with x on the variables below v.
	var sub func(v int, x uint8) Ref
	sub = func(v int, x uint8) Ref {
		if v == c.vars {
			return c.ref(node{variable: v, value: value(x)})
		}
		low := sub(v+1, fix(x, v, false))
		high := sub(v+1, fix(x, v, true))
		if low == high {
			return low
		}
		return c.ref(node{variable: v, low: low, high: high})
	}
	return sub(0, 0)
}

// ref returns the reference of a node, which is stored if it is new.
func (c *contents) ref(n node) Ref {
	r, stored := c.refs[n]
	if !stored {
		c.nodes = append(c.nodes, n)
		r = Ref(len(c.nodes))
		c.refs[n] = r
	}
	return r
}

// forget removes all nodes but the first ones.
func (c *contents) forget(first int) {
	for _, n := range c.nodes[first:] {
		delete(c.refs, n)
	}
	c.nodes = c.nodes[:first]
}

// node returns a stored node.
func (c *contents) node(r Ref) node {
	return c.nodes[r-1]
}

// isLeaf reports whether a node has a value instead of a variable.
func (c *contents) isLeaf(n node) bool {
	return n.variable == c.vars
}

// eval returns the value of a stored node for the letter x.
func (c *contents) eval(r Ref, x uint8) int {
	n := c.node(r)
	for !c.isLeaf(n) {
		if x>>n.variable&1 == 1 {
			n = c.node(n.high)
		} else {
			n = c.node(n.low)
		}
	}
	return n.value
}

// size returns the number of nodes that a stored node leads to, itself included.
func (c *contents) size(r Ref) int {
	seen := map[Ref]bool{}
	var visit func(r Ref)
	visit = func(r Ref) {
		if seen[r] {
			return
		}
		seen[r] = true
		if n := c.node(r); !c.isLeaf(n) {
			visit(n.low)
			visit(n.high)
		}
	}
	visit(r)
	return len(seen)
}
