package subset_test

import (
	"fmt"

	"sentinel/api"
	"sentinel/subset"
)

// The example of README.md.
func Example() {
	n := api.NFA{Vars: 1, States: 3, Start: []int{0}, Final: []int{2}, Edges: []api.Edge{
		{From: 0, To: 0}, {From: 0, To: 1, Pos: 1}, {From: 1, To: 2}}}
	d, sets, _ := subset.Determinize(n, 100)
	fmt.Println(d.Next, d.Final, sets)
	fmt.Println(subset.Run(d, []uint8{1, 0}))
	fmt.Println(subset.Accepts(d, []uint8{1, 0}))
	_, _, e := subset.Determinize(n, 3)
	fmt.Println(e == api.ErrBudget)
	d.Start = 3
	r, _ := subset.Renumber(d)
	fmt.Println(r.Next, r.Final)
	m, _ := subset.ToNFA(r)
	fmt.Println(m.Edges[:2])
	d.Final = nil
	fmt.Println(subset.Check(d) == api.ErrForm)
	// Output:
	// [[0 1] [2 3] [0 1] [2 3]] [false false true true] [[0] [0 1] [0 2] [0 1 2]]
	// 2 0
	// true 0
	// true
	// [[1 0] [2 3] [2 3] [1 0]] [true true false false]
	// [{0 1 0 1} {0 0 1 0}]
	// true
}
