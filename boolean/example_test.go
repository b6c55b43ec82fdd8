package boolean_test

import (
	"fmt"

	"sentinel/api"
	"sentinel/boolean"
)

// The example of README.md.
func Example() {
	one := api.DFA{Vars: 1, Next: [][]int{{2, 1}, {1, 1}, {2, 2}}, Final: []bool{false, true, false}}
	even := api.DFA{Vars: 1, Next: [][]int{{1, 1}, {0, 0}}, Final: []bool{true, false}}
	m, _ := boolean.And(one, even)
	fmt.Println(m.Next, m.Final)
	n, _ := boolean.Not(m)
	fmt.Println(n.Next, n.Final)
	fmt.Println(boolean.Included(one, even))
	fmt.Println(boolean.Included(m, one))
	x, _ := boolean.Xor(one, even)
	y, _ := boolean.Minus(one, even)
	z, _ := boolean.Minus(even, one)
	u, _ := boolean.Or(y, z)
	fmt.Println(boolean.Equal(x, u))
	all, _ := boolean.All(1, one, even, n)
	fmt.Println(all.Next, all.Final)
	_, e := boolean.All(2, one)
	fmt.Println(e == api.ErrVars)
	// Output:
	// [[1 2] [1 1] [3 3] [2 2]] [false false false true]
	// [[1 2] [1 1] [3 3] [2 2]] [true true true false]
	// [1] false 0
	// [] true 0
	// true 0
	// [[0 0]] [false]
	// true
}
