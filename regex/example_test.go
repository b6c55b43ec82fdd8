package regex_test

import (
	"fmt"

	"sentinel/api"
	"sentinel/regex"
)

// The example of README.md.
func Example() {
	e, fault := regex.Parse("([a].(>[*]))", 2)
	fmt.Println(len(e), fault == api.OK)
	fmt.Println(regex.Plain(e, 2))
	r, _ := regex.Reverse(e, 2)
	fmt.Println(regex.Format(r, 2))
	b, _ := regex.Block(e, 2, 2)
	fmt.Println(regex.Format(b, 2))
	_, fault = regex.Parse("(0.1", 2)
	fmt.Println(fault == api.ErrShort)
	_, fault = regex.Parse("((>0)*)", 2)
	fmt.Println(fault == api.ErrForm)
	// Output:
	// 4 true
	// false 0
	// ((<[*]).[a]) 0
	// (>[*]) 0
	// true
	// true
}
