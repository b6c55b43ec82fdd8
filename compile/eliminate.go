package compile

import (
	"sentinel/api"
	"sentinel/cube"
)

// mostStates is the greatest number of states of a minimal automaton whose elimination expression can have at most
// api.MaxNodes pieces. All states but the first one and one that accepts no word are reached by a letter of their own
// in the expression, and n letters need n - 1 operators.
const mostStates = api.MaxNodes/2 + 2

// The texts of the constants.
const (
	noWord    = "0"
	emptyWord = "1"
)

// term is an expression with its number of pieces. All those with too many pieces are the same one, which has no
// text: whatever is assembled from it has too many, too, but for concatenations with 0.
type term struct {
	text   string
	pieces int
}

// termOf returns the term of an expression with so many pieces.
func termOf(text string, pieces int) term {
	if pieces > api.MaxNodes {
		return term{pieces: api.MaxNodes + 1}
	}
	return term{text, pieces}
}

// leaf returns a term of one piece.
func leaf(text string) term {
	return term{text, 1}
}

// letter returns the term of a letter over vars variables, with all literals.
func letter(x uint8, vars int) term {
	text, _ := cube.Format(api.Cube{Pos: x, Neg: ^x & (1<<vars - 1)}, vars)
	return leaf("[" + text + "]")
}

// joined returns the term of an operator between two others.
func joined(a term, operator string, b term) term {
	return termOf("("+a.text+operator+b.text+")", a.pieces+b.pieces+1)
}

// alternation returns the simplified term for one or another of some terms.
func alternation(terms ...term) term {
	whole := leaf(noWord)
	for _, t := range terms {
		switch {
		case whole.text == noWord:
			whole = t
		case t.text != noWord && t != whole:
			whole = joined(whole, "|", t)
		}
	}
	return whole
}

// concatenation returns the simplified term for one term after the other.
func concatenation(terms ...term) term {
	whole := leaf(emptyWord)
	for _, t := range terms {
		switch {
		case whole.text == noWord || t.text == noWord:
			whole = leaf(noWord)
		case whole.text == emptyWord:
			whole = t
		case t.text != emptyWord:
			whole = joined(whole, ".", t)
		}
	}
	return whole
}

// star returns the simplified term for repetitions of a term.
func star(t term) term {
	if t.text == noWord || t.text == emptyWord {
		return leaf(emptyWord)
	}
	return termOf("("+t.text+"*)", t.pieces+1)
}

// terms contains for each pair of states the term of words that lead from the first one to the second one.
type terms [][]term

// direct returns the terms of words that pass no state on their way.
func direct(d api.DFA) terms {
	r := make(terms, len(d.Next))
	for s, row := range d.Next {
		r[s] = make([]term, len(d.Next))
		ways := make([][]term, len(d.Next))
		ways[s] = append(ways[s], leaf(emptyWord))
		for x, to := range row {
			ways[to] = append(ways[to], letter(uint8(x), d.Vars))
		}
		for to, l := range ways {
			r[s][to] = alternation(l...)
		}
	}
	return r
}

// through returns the terms of words that may also pass state k on their way.
func (r terms) through(k int) terms {
	again := star(r[k][k])
	next := make(terms, len(r))
	for s := range r {
		next[s] = make([]term, len(r))
		for t := range r {
			next[s][t] = alternation(r[s][t], concatenation(r[s][k], again, r[k][t]))
		}
	}
	return next
}

// eliminated returns the elimination expression of a minimal automaton.
func eliminated(d api.DFA) term {
	r := direct(d)
	for k := range d.Next {
		r = r.through(k)
	}
	var l []term
	for t, final := range d.Final {
		if final {
			l = append(l, r[d.Start][t])
		}
	}
	return alternation(l...)
}
