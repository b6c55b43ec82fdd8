package regex

import (
	"sentinel/api"
	"sentinel/cube"
)

// isNumberOfVars reports whether an alphabet can have vars variables.
func isNumberOfVars(vars int) bool {
	return 0 <= vars && vars <= api.MaxVars
}

// isLook reports whether an operator looks around.
func isLook(op uint8) bool {
	return op == api.RxAhead || op == api.RxBehind
}

// cubeOf returns the cube of a letter.
func cubeOf(p api.Piece) api.Cube {
	return api.Cube{Pos: p.Pos, Neg: p.Neg}
}

// childrenOf returns the indices of the children of a piece.
func childrenOf(p api.Piece) []int {
	o, _ := operatorOf(p.Op)
	return []int{p.A, p.B}[:o.children]
}

// checkPiece returns what is invalid about piece i; the pieces before it are in postorder.
func checkPiece(e api.Regex, vars, i int) api.Errno {
	p := e[i]
	o, known := operatorOf(p.Op)
	switch {
	case !known:
		return api.ErrKind
	case !usesOnlyItsFields(p, o.children):
		return api.ErrForm
	case p.Op == api.RxLetter:
		return cube.Check(cubeOf(p), vars)
	case !isInPostorder(e, i, o.children):
		return api.ErrState
	}
	return api.OK
}

// usesOnlyItsFields reports whether the fields that a piece does not use are 0.
func usesOnlyItsFields(p api.Piece, children int) bool {
	return (p.Op == api.RxLetter || cubeOf(p) == api.Cube{}) &&
		(children >= 1 || p.A == 0) &&
		(children >= 2 || p.B == 0)
}

// isInPostorder reports whether the children of piece i are directly before it.
func isInPostorder(e api.Regex, i, children int) bool {
	last := i - 1
	switch {
	case children == 0:
		return true
	case last < 0:
		return false
	case children == 1:
		return e[i].A == last
	}
	start := first(e, last)
	return e[i].B == last && start > 0 && e[i].A == start-1
}

// first returns the index of the first piece in the block of piece i.
func first(e api.Regex, i int) int {
	for len(childrenOf(e[i])) > 0 {
		i = e[i].A
	}
	return i
}

// hasMisplacedLook reports whether a look-around is below an operator other than RxCat and RxAlt.
func hasMisplacedLook(e api.Regex) bool {
	var misplaced func(i int, allowed bool) bool
	misplaced = func(i int, allowed bool) bool {
		op := e[i].Op
		if isLook(op) && !allowed {
			return true
		}
		allowed = allowed && (op == api.RxCat || op == api.RxAlt)
		for _, child := range childrenOf(e[i]) {
			if misplaced(child, allowed) {
				return true
			}
		}
		return false
	}
	return misplaced(len(e)-1, true)
}

// copied returns the block of piece i as an expression in which each piece is replaced
// by one with as many children; the children of the new piece are indices in e, too.
func copied(e api.Regex, i int, replace func(p api.Piece) api.Piece) api.Regex {
	var block api.Regex
	var add func(i int) int
	add = func(i int) int {
		p := replace(e[i])
		children := childrenOf(p)
		if len(children) >= 1 {
			p.A = add(children[0])
		}
		if len(children) >= 2 {
			p.B = add(children[1])
		}
		block = append(block, p)
		return len(block) - 1
	}
	add(i)
	return block
}

// mirrored returns the piece that matches the reversed words if its children do.
func mirrored(p api.Piece) api.Piece {
	switch p.Op {
	case api.RxCat:
		p.A, p.B = p.B, p.A
	case api.RxAhead:
		p.Op = api.RxBehind
	case api.RxBehind:
		p.Op = api.RxAhead
	}
	return p
}
