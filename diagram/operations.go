package diagram

// operation is an operation of Apply on values.
type operation struct {
	code    uint8
	combine func(x, y int) int
}

// operationOf returns the operation with the given code, or false if there is none.
func operationOf(code uint8) (operation, bool) {
	for _, o := range []operation{
		{Max, func(x, y int) int { return max(x, y) }},
		{Min, func(x, y int) int { return min(x, y) }},
		{Xor, func(x, y int) int { return x ^ y }},
		{Equal, equal},
	} {
		if o.code == code {
			return o, true
		}
	}
	return operation{}, false
}

// equal returns 1 if the values are equal, and 0 otherwise.
func equal(x, y int) int {
	if x == y {
		return 1
	}
	return 0
}
