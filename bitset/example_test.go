package bitset_test

import (
	"fmt"

	"sentinel/bitset"
)

// The example of README.md.
func Example() {
	s := bitset.Of(70, 3, 3, -1)
	least, _ := bitset.Min(s)
	fmt.Println(bitset.List(s), bitset.Len(s), least)
	fmt.Println(bitset.List(bitset.Minus(s, bitset.Of(70))))
	fmt.Println(bitset.Compare(bitset.Of(0, 9), bitset.Of(1)))
	// Output:
	// [3 70] 2 3
	// [3]
	// -1
}
