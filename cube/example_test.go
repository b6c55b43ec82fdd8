package cube_test

import (
	"fmt"

	"sentinel/api"
	"sentinel/cube"
)

// The example of README.md.
func Example() {
	c, e := cube.Parse("a!b", 3)
	fmt.Println(c.Pos, c.Neg, e == api.OK)
	letters, _ := cube.Letters(c, 3)
	fmt.Println(letters)
	fmt.Println(cube.Intersect(c, api.Cube{Neg: 4}))
	primes, _ := cube.Cover([]uint8{1, 2, 3}, 2)
	for _, p := range primes {
		text, _ := cube.Format(p, 2)
		fmt.Println(text)
	}
	text, _ := cube.Format(api.Cube{}, 2)
	fmt.Println(text)
	// Output:
	// 1 2 true
	// [1 5]
	// {1 6} true
	// a
	// b
	// *
}
