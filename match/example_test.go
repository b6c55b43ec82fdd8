package match_test

import (
	"fmt"

	"sentinel/api"
	"sentinel/match"
	"sentinel/regex"
)

// The example of README.md.
func Example() {
	x, _ := regex.Parse("([a].(>[b]))", 2)
	fmt.Println(match.Spans(x, 2, []uint8{1, 2}))
	fmt.Println(match.Accepts(x, 2, []uint8{1}))
	m, _ := match.Table(x, 2, []uint8{1, 2})
	fmt.Println(m[0][1], m[0][2])
	y, _ := regex.Parse("([a]*)", 2)
	fmt.Println(match.Nullable(y, 2))
	d, e := match.Derive(y, 2, 1)
	text, _ := regex.Format(d, 2)
	fmt.Println(text, e == api.OK)
	_, e = match.Derive(x, 2, 1)
	fmt.Println(e == api.ErrKind)
	// Output:
	// [[0 1]] 0
	// false 0
	// true false
	// true 0
	// (1.([a]*)) true
	// true
}
