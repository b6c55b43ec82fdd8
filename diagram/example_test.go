package diagram_test

import (
	"fmt"

	"sentinel/api"
	"sentinel/diagram"
)

// The example of README.md.
func Example() {
	s, e := diagram.New(2, 16)
	fmt.Println(s.Vars(), e == api.OK)
	or, _ := s.FromTable([]int{0, 1, 1, 1})
	and, _ := s.FromCube(api.Cube{Pos: 3}, 1, 0)
	larger, _ := s.Apply(diagram.Max, or, and)
	fmt.Println(larger == or)
	fmt.Println(s.Size(or))
	fmt.Println(s.Count(or, 1))
	some, _ := s.Exists(or, 0)
	fmt.Println(s.Table(some))
	fmt.Println(s.Size(some))
	fmt.Println(s.Nodes())
	// Output:
	// 2 true
	// true
	// 4 0
	// 3 0
	// [1 1 1 1] 0
	// 1 0
	// 5 0
}
