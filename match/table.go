package match

import (
	"iter"

	"sentinel/api"
	"sentinel/cube"
)

// relation is a condition on pairs of positions.
type relation func(i, j int) bool

// matrix contains for each pair of positions whether a piece matches from the first to the second.
type matrix [][]bool

// newMatrix returns the matrix of a piece that never matches a word of n letters.
func newMatrix(n int) matrix {
	m := make(matrix, n+1)
	for i := range m {
		m[i] = make([]bool, n+1)
	}
	return m
}

// at reports whether the piece matches from i to j.
func (m matrix) at(i, j int) bool {
	return m[i][j]
}

// fill enters where a piece matches. The relation may use the elements of the rows below.
func (m matrix) fill(matches relation) {
	for i, j := range pairs(len(m) - 1) {
		m[i][j] = matches(i, j)
	}
}

// pairs yields the pairs of positions (i, j) with i <= j in a word of n letters, those with the greatest i first.
func pairs(n int) iter.Seq2[int, int] {
	return func(yield func(int, int) bool) {
		for i := n; i >= 0; i-- {
			for j := i; j <= n; j++ {
				if !yield(i, j) {
					return
				}
			}
		}
	}
}

// table returns the matrix of a valid expression.
func table(e api.Regex, w []uint8) matrix {
	return tables(e, w)[len(e)-1]
}

// tables returns the matrices of the pieces of a valid expression.
func tables(e api.Regex, w []uint8) []matrix {
	known := make([]matrix, len(e))
	for i, p := range e {
		m := newMatrix(len(w))
		// A field that a piece does not use is 0, and the matrix that it selects is not looked at.
		m.fill(meaning(p, w, known[p.A].at, known[p.B].at, m.at))
		known[i] = m
	}
	return known
}

// meaning returns from where to where a piece matches a word. Its children match as a and b say,
// and for words that begin further right the piece itself matches as rest says.
func meaning(p api.Piece, w []uint8, a, b, rest relation) relation {
	switch p.Op {
	case api.RxEmpty:
		return func(i, j int) bool { return i == j }
	case api.RxLetter:
		c := api.Cube{Pos: p.Pos, Neg: p.Neg}
		return func(i, j int) bool { return j == i+1 && cube.Has(c, w[i]) }
	case api.RxCat:
		return func(i, j int) bool {
			return some(i, j, func(k int) bool { return a(i, k) && b(k, j) })
		}
	case api.RxAlt:
		return func(i, j int) bool { return a(i, j) || b(i, j) }
	case api.RxAnd:
		return func(i, j int) bool { return a(i, j) && b(i, j) }
	case api.RxNot:
		return func(i, j int) bool { return !a(i, j) }
	case api.RxStar:
		return func(i, j int) bool {
			return i == j || some(i+1, j, func(k int) bool { return a(i, k) && rest(k, j) })
		}
	case api.RxAhead:
		return func(i, j int) bool {
			return i == j && some(i, len(w), func(k int) bool { return a(i, k) })
		}
	case api.RxBehind:
		return func(i, j int) bool {
			return i == j && some(0, i, func(k int) bool { return a(k, i) })
		}
	}
	return func(int, int) bool { return false }
}

// some reports whether the condition holds for a position from first to last.
func some(first, last int, holds func(k int) bool) bool {
	for k := first; k <= last; k++ {
		if holds(k) {
			return true
		}
	}
	return false
}
