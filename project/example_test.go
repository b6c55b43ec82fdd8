package project_test

import (
	"fmt"

	"sentinel/api"
	"sentinel/project"
	"sentinel/subset"
)

// lettersOf returns the letters over three variables that an automaton accepts as words.
func lettersOf(d api.DFA) []int {
	var l []int
	for x := range 8 {
		if is, _ := subset.Accepts(d, []uint8{uint8(x)}); is {
			l = append(l, x)
		}
	}
	return l
}

// The example of README.md.
func Example() {
	d := api.DFA{Vars: 2, Next: [][]int{{2, 1, 1, 2}, {2, 2, 2, 2}, {2, 2, 2, 2}}, Final: []bool{false, true, false}}
	some, _ := project.Exists(d, 0, 100)
	fmt.Println(some.Next, some.Final)
	every, _ := project.Forall(d, 0, 100)
	fmt.Println(every.Next, every.Final)
	_, e := project.Exists(d, 0, 2)
	fmt.Println(e == api.ErrBudget)
	fmt.Println(project.Ignores(some, 0))
	_, e = project.Drop(d, 0)
	fmt.Println(e == api.ErrVars)
	m, _ := project.Drop(some, 0)
	fmt.Println(m.Next, m.Final)
	m, _ = project.Insert(d, 1)
	fmt.Println(lettersOf(m))
	r, _ := project.Rename(m, 2, 0, 1)
	fmt.Println(lettersOf(r))
	// Output:
	// [[1 1 1 1] [2 2 2 2] [2 2 2 2]] [false true false]
	// [[0 0 0 0]] [false]
	// true
	// true 0
	// true
	// [[1 1] [2 2] [2 2]] [false true false]
	// [1 3 4 6]
	// [2 3 4 5]
}
