package nfa_test

import (
	"fmt"

	"sentinel/api"
	"sentinel/bitset"
	"sentinel/nfa"
)

// The example of README.md.
func Example() {
	n := api.NFA{Vars: 1, States: 3, Start: []int{0}, Final: []int{2}, Edges: []api.Edge{
		{From: 0, To: 0}, {From: 0, To: 1, Pos: 1}, {From: 1, To: 2}}}
	fmt.Println(nfa.Accepts(n, []uint8{0, 1, 1}))
	s, _ := nfa.Run(n, []uint8{1})
	fmt.Println(bitset.List(s))
	s, _ = nfa.After(n, s, 0)
	fmt.Println(bitset.List(s))
	r, _ := nfa.Reverse(n)
	fmt.Println(r.Start, r.Final)
	u, _ := nfa.Union(n, r)
	fmt.Println(u.States, u.Start, u.Final)
	n.Final = []int{1}
	s, _ = nfa.Productive(n)
	fmt.Println(bitset.List(s))
	m, _ := nfa.Trim(n)
	fmt.Println(m.States, m.Edges)
	n.Start = []int{3}
	fmt.Println(nfa.Check(n) == api.ErrState)
	// Output:
	// true 0
	// [0 1]
	// [0 2]
	// [2] [0]
	// 6 [0 5] [2 3]
	// [0 1]
	// 2 [{0 0 0 0} {0 1 1 0}]
	// true
}
