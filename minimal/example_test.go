package minimal_test

import (
	"fmt"

	"sentinel/api"
	"sentinel/minimal"
)

// The example of README.md.
func Example() {
	d := api.DFA{Vars: 1, Next: [][]int{{1, 3}, {2, 3}, {1, 3}, {3, 3}}, Final: []bool{false, true, true, false}}
	fmt.Println(minimal.Classes(d))
	fmt.Println(minimal.Rounds(d, 0))
	m, _ := minimal.Minimize(d)
	fmt.Println(m.Next, m.Final)
	fmt.Println(minimal.Distinguish(d, 0, 3))
	fmt.Println(minimal.Distinguish(d, 1, 2))
	fmt.Println(minimal.Equivalent(d, 1, 2))
	_, e := minimal.Equivalent(d, 0, 4)
	fmt.Println(e == api.ErrState)
	// Output:
	// [0 1 1 2] 0
	// [0 1 1 0] 0
	// [[1 2] [1 2] [2 2]] [false true false]
	// [0] true 0
	// [] false 0
	// true 0
	// true
}
