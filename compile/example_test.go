package compile_test

import (
	"fmt"

	"sentinel/api"
	"sentinel/compile"
	"sentinel/regex"
)

// The example of README.md.
func Example() {
	x, _ := regex.Parse("(([*]*).([a].[*]))", 1)
	d, _ := compile.FromRegex(x, 1, 100)
	fmt.Println(d.Next, d.Final)
	fmt.Println(compile.Accepts(x, 1, 100, []uint8{0, 1, 0}))
	_, e := compile.FromRegex(x, 1, 3)
	fmt.Println(e == api.ErrBudget)
	y, _ := regex.Parse("((>([*].[b])).([*]*))", 2)
	fmt.Println(compile.Accepts(y, 2, 100, []uint8{0, 3, 1}))
	fmt.Println(compile.Accepts(y, 2, 100, []uint8{2}))
	r, e := compile.ToRegex(api.DFA{Vars: 1, Next: [][]int{{2, 1}, {0, 2}, {2, 2}}, Final: []bool{false, true, false}})
	text, _ := regex.Format(r, 1)
	fmt.Println(text, e == api.OK)
	_, e = compile.ToRegex(d)
	fmt.Println(e == api.ErrLong)
	// Output:
	// [[0 1] [2 3] [0 1] [2 3]] [false false true true]
	// true 0
	// true
	// true 0
	// false 0
	// ([a]|(([a].((1|([!a].[a]))*)).(1|([!a].[a])))) true
	// true
}
