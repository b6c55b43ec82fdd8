package regex

import (
	"sentinel/api"
	"sentinel/cube"
)

// lastName is the name of the greatest variable of a cube.
const lastName = "f"

// parser reads a text from its first byte on. A method that finds an error in the syntax panics with it.
type parser struct {
	text   string
	at     int       // the index of the next byte
	pieces api.Regex // what has been read so far, in postorder
}

// read returns the expression of a text over api.MaxVars variables, of any number of pieces
// and with look-arounds anywhere, or the error in its syntax.
func read(s string) (e api.Regex, fault api.Errno) {
	defer func() {
		if reported, is := recover().(api.Errno); is {
			fault = reported
		}
	}()
	p := &parser{text: s}
	p.expression()
	if p.at < len(p.text) {
		return nil, api.ErrMore
	}
	return p.pieces, api.OK
}

// next returns the next byte without passing it.
func (p *parser) next() byte {
	if p.at == len(p.text) {
		panic(api.ErrShort)
	}
	return p.text[p.at]
}

// take passes the next byte and returns it.
func (p *parser) take() byte {
	sign := p.next()
	p.at++
	return sign
}

// add adds a piece.
func (p *parser) add(piece api.Piece) {
	p.pieces = append(p.pieces, piece)
}

// root returns the index of the root of the expression that was read last.
func (p *parser) root() int {
	return len(p.pieces) - 1
}

// expression reads an expression.
func (p *parser) expression() {
	switch p.take() {
	case noneSign:
		p.add(api.Piece{Op: api.RxNone})
	case emptySign:
		p.add(api.Piece{Op: api.RxEmpty})
	case openCube:
		p.letter()
	case openGroup:
		p.group()
	default:
		panic(api.ErrForm)
	}
}

// letter reads a cube and the bracket that closes it.
func (p *parser) letter() {
	start := p.at
	for p.take() != closeCube {
		if !beginsCube(p.text[start:p.at]) {
			panic(api.ErrForm)
		}
	}
	c, fault := cube.Parse(p.text[start:p.at-1], api.MaxVars)
	if fault != api.OK {
		panic(api.ErrForm)
	}
	p.add(api.Piece{Op: api.RxLetter, Pos: c.Pos, Neg: c.Neg})
}

// beginsCube reports whether the text of some cube begins with s.
func beginsCube(s string) bool {
	// A beginning that is no text itself lacks a name, and if any name may follow, the last one may.
	return isCube(s) || isCube(s+lastName)
}

// isCube reports whether s is the text of a cube.
func isCube(s string) bool {
	_, fault := cube.Parse(s, api.MaxVars)
	return fault == api.OK
}

// group reads an operator with its operands and the parenthesis that closes it.
func (p *parser) group() {
	if operate := p.prefix(p.next()); operate != nil {
		p.at++
		p.expression()
		operate()
	} else {
		p.expression()
		operate := p.suffix(p.take())
		operate()
	}
	if p.take() != closeGroup {
		panic(api.ErrForm)
	}
}

// prefix returns the method of an operator that is written before its operand, or nil if there is none.
func (p *parser) prefix(sign byte) func() {
	switch sign {
	case notSign:
		return p.not
	case aheadSign:
		return p.ahead
	case behindSign:
		return p.behind
	}
	return nil
}

// suffix returns the method of an operator that is written after its first operand.
func (p *parser) suffix(sign byte) func() {
	switch sign {
	case catSign:
		return p.cat
	case altSign:
		return p.alt
	case andSign:
		return p.and
	case starSign:
		return p.star
	}
	panic(api.ErrForm)
}

// The methods of the operators are called when their first operand has been read.

func (p *parser) not()    { p.unary(api.RxNot) }
func (p *parser) star()   { p.unary(api.RxStar) }
func (p *parser) ahead()  { p.unary(api.RxAhead) }
func (p *parser) behind() { p.unary(api.RxBehind) }
func (p *parser) cat()    { p.binary(api.RxCat) }
func (p *parser) alt()    { p.binary(api.RxAlt) }
func (p *parser) and()    { p.binary(api.RxAnd) }

// unary adds an operator with the operand that was read last.
func (p *parser) unary(op uint8) {
	p.add(api.Piece{Op: op, A: p.root()})
}

// binary reads the second operand and adds the operator.
func (p *parser) binary(op uint8) {
	left := p.root()
	p.expression()
	p.add(api.Piece{Op: op, A: left, B: p.root()})
}
