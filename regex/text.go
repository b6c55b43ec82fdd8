package regex

import (
	"strings"

	"sentinel/api"
	"sentinel/cube"
)

// The signs of the texts.
const (
	noneSign   = '0'
	emptySign  = '1'
	openCube   = '['
	closeCube  = ']'
	openGroup  = '('
	closeGroup = ')'
	catSign    = '.'
	altSign    = '|'
	andSign    = '&'
	notSign    = '~'
	starSign   = '*'
	aheadSign  = '>'
	behindSign = '<'
)

// operator says how the pieces of an operator are written and how many children they have.
type operator struct {
	sign     byte
	children int
	prefix   bool // whether the sign is before the first child and not after it
}

// operatorOf returns the operator of a number, or false if there is none.
func operatorOf(op uint8) (operator, bool) {
	switch op {
	case api.RxNone:
		return operator{sign: noneSign}, true
	case api.RxEmpty:
		return operator{sign: emptySign}, true
	case api.RxLetter:
		return operator{sign: openCube}, true
	case api.RxCat:
		return operator{sign: catSign, children: 2}, true
	case api.RxAlt:
		return operator{sign: altSign, children: 2}, true
	case api.RxAnd:
		return operator{sign: andSign, children: 2}, true
	case api.RxNot:
		return operator{sign: notSign, children: 1, prefix: true}, true
	case api.RxStar:
		return operator{sign: starSign, children: 1}, true
	case api.RxAhead:
		return operator{sign: aheadSign, children: 1, prefix: true}, true
	case api.RxBehind:
		return operator{sign: behindSign, children: 1, prefix: true}, true
	}
	return operator{}, false
}

// textOf returns the text of a valid expression.
func textOf(e api.Regex, vars int) string {
	var text strings.Builder
	var write func(i int)
	write = func(i int) {
		p := e[i]
		o, _ := operatorOf(p.Op)
		if o.children == 0 {
			writeLeaf(&text, p, o, vars)
			return
		}
		text.WriteByte(openGroup)
		if o.prefix {
			text.WriteByte(o.sign)
		}
		write(p.A)
		if !o.prefix {
			text.WriteByte(o.sign)
		}
		if o.children == 2 {
			write(p.B)
		}
		text.WriteByte(closeGroup)
	}
	write(len(e) - 1)
	return text.String()
}

// writeLeaf writes a valid piece without children.
func writeLeaf(text *strings.Builder, p api.Piece, o operator, vars int) {
	text.WriteByte(o.sign)
	if p.Op == api.RxLetter {
		literals, _ := cube.Format(cubeOf(p), vars)
		text.WriteString(literals)
		text.WriteByte(closeCube)
	}
}
