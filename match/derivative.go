package match

import (
	"sentinel/api"
	"sentinel/cube"
	"sentinel/regex"
)

// derivative returns the derivative of a valid plain expression by a letter, of any number of pieces.
func derivative(e api.Regex, vars int, x uint8) api.Regex {
	onEmpty := tables(e, nil)
	block := func(i int) api.Regex {
		// There is no error, since all blocks of a valid plain expression are valid.
		b, _ := regex.Block(e, vars, i)
		return b
	}
	var derive func(i int) api.Regex
	derive = func(i int) api.Regex {
		p := e[i]
		switch p.Op {
		case api.RxLetter:
			return remainder(p, x)
		case api.RxAlt, api.RxAnd:
			return binary(p.Op, derive(p.A), derive(p.B))
		case api.RxNot:
			return unary(p.Op, derive(p.A))
		case api.RxStar:
			return binary(api.RxCat, derive(p.A), block(i))
		case api.RxCat:
			d := binary(api.RxCat, derive(p.A), block(p.B))
			if onEmpty[p.A].at(0, 0) {
				d = binary(api.RxAlt, d, derive(p.B))
			}
			return d
		}
		return api.Regex{{Op: api.RxNone}}
	}
	return derive(len(e) - 1)
}

// remainder returns the derivative of a letter by the letter x.
func remainder(p api.Piece, x uint8) api.Regex {
	if cube.Has(api.Cube{Pos: p.Pos, Neg: p.Neg}, x) {
		return api.Regex{{Op: api.RxEmpty}}
	}
	return api.Regex{{Op: api.RxNone}}
}

// unary returns an operator applied to a, whose memory it takes over.
func unary(op uint8, a api.Regex) api.Regex {
	return append(a, api.Piece{Op: op, A: len(a) - 1})
}

// binary returns an operator applied to a and b; it takes over the memory of a.
func binary(op uint8, a, b api.Regex) api.Regex {
	left := len(a)
	for _, p := range b {
		a = append(a, moved(p, left))
	}
	return append(a, api.Piece{Op: op, A: left - 1, B: len(a) - 1})
}

// moved returns a piece whose children are by places further right.
func moved(p api.Piece, by int) api.Piece {
	switch p.Op {
	case api.RxCat, api.RxAlt, api.RxAnd:
		p.A += by
		p.B += by
	case api.RxNot, api.RxStar:
		p.A += by
	}
	return p
}
