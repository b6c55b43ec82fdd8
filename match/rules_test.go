package match_test

import (
	"math"
	"slices"
	"testing"

	"sentinel/api"
	"sentinel/match"
	"sentinel/regex"
)

// R1 and R2: no function panics, the error of regex.Check comes first, and with an error there is no result.
func TestErrorsOfAnyArguments(t *testing.T) {
	draw := choice(54)
	numbers := []int{math.MinInt, -1, 0, 1, 2, math.MaxInt}
	for range 30000 {
		e := make(api.Regex, draw.below(5))
		for i := range e {
			e[i] = api.Piece{Op: uint8(draw.below(12)), A: max(0, i-1)}
			switch draw.below(4) {
			case 0:
				e[i] = api.Piece{Op: api.RxNone + uint8(draw.below(3)), Pos: uint8(draw.below(4)), Neg: uint8(draw.below(4))}
			case 1:
				e[i].A, e[i].B = draw.below(4)-1, i-1
			case 2:
				e[i].B = numbers[draw.below(len(numbers))]
			}
		}
		vars := draw.below(4) - 1
		w := make([]uint8, []int{0, 1, 2, 3, 64, 65}[draw.below(6)])
		for i := range w {
			w[i] = uint8(draw.below(2) * draw.below(2) * draw.below(5))
		}
		x := uint8(draw.below(5))
		fault := regex.Check(e, vars)
		if onWord := faultOfWord(fault, vars, w); onWord != api.OK {
			checkWordError(t, e, vars, w, onWord)
		} else if m := table(t, e, vars, w); len(m) != len(w)+1 {
			t.Errorf("Table(%v, %d, %d) has %d rows", e, vars, w, len(m))
		}
		looks := slices.ContainsFunc(e, func(p api.Piece) bool { return p.Op == api.RxAhead || p.Op == api.RxBehind })
		switch {
		case fault != api.OK:
			checkPlainErrors(t, e, vars, x, fault, fault)
		case looks:
			checkPlainErrors(t, e, vars, x, api.ErrKind, api.ErrKind)
		case int(x) >= 1<<vars:
			checkPlainErrors(t, e, vars, x, api.OK, api.ErrArg)
		default:
			if d, fault := match.Derive(e, vars, x); fault != api.OK || regex.Check(d, vars) != api.OK {
				t.Errorf("Derive(%v, %d, %d) = %v, %d", e, vars, x, d, fault)
			}
		}
	}
}

// faultOfWord returns the error of the functions on words if that of the expression is known.
func faultOfWord(fault api.Errno, vars int, w []uint8) api.Errno {
	switch {
	case fault != api.OK:
		return fault
	case len(w) > 64:
		return api.ErrLong
	case slices.ContainsFunc(w, func(x uint8) bool { return int(x) >= 1<<vars }):
		return api.ErrArg
	}
	return api.OK
}

// R3: arguments are not changed, and what is beyond their length is not read.
func TestArgumentsAreLeft(t *testing.T) {
	for _, s := range samples() {
		pieces := append(parsed(t, s.text, s.vars), api.Piece{Op: 200, Pos: 9, Neg: 9, A: -5, B: 99}, api.Piece{Op: api.RxStar})
		word := append(slices.Clone(s.words[len(s.words)-1]), 255, 1, 0)
		beforePieces, beforeWord := slices.Clone(pieces), slices.Clone(word)
		e, w := pieces[:len(pieces)-2], word[:len(word)-3]
		checkTable(t, e, s.vars, w, s.ends(w))
		checkSpans(t, e, s.vars, w, s.ends(w))
		match.Nullable(e, s.vars)
		match.Derive(e, s.vars, 0)
		if !slices.Equal(pieces, beforePieces) || !slices.Equal(word, beforeWord) {
			t.Errorf("the arguments %v and %d have become %v and %d", beforePieces, beforeWord, pieces, word)
		}
	}
}

// overwrite changes all the memory that a slice can reach.
func overwrite[E any](s []E, value E) {
	s = s[:cap(s)]
	for i := range s {
		s[i] = value
	}
}

// R3: results share no memory with arguments, with each other or within themselves.
func TestResultsShareNoMemory(t *testing.T) {
	for _, s := range samples() {
		if s.pieces > 12 {
			break
		}
		e, w := parsed(t, s.text, s.vars), s.words[len(s.words)-1]
		ends := s.ends(w)
		m := table(t, e, s.vars, w)
		for i, row := range m {
			overwrite(row, true)
			for k := i + 1; k < len(m); k++ {
				for j, matches := range m[k] {
					if matches != ends[k].has(j) {
						t.Fatalf("changing row %d of Table(%q, %d, %d) changes row %d", i, s.text, s.vars, w, k)
					}
				}
			}
		}
		l, _ := match.Spans(e, s.vars, w)
		overwrite(l, [2]int{-1, -1})
		checkTable(t, e, s.vars, w, ends)
		checkSpans(t, e, s.vars, w, ends)
		checkDerivativeIsNew(t, s)
	}
}

// checkDerivativeIsNew checks that changing a derivative changes neither the argument nor another derivative.
func checkDerivativeIsNew(t *testing.T, s sample) {
	t.Helper()
	if !s.plain {
		return
	}
	e := parsed(t, s.text, s.vars)
	first, _ := match.Derive(e, s.vars, 0)
	second, _ := match.Derive(e, s.vars, 0)
	want := slices.Clone(second)
	overwrite(first, api.Piece{Op: 77, Pos: 77, Neg: 77, A: 77, B: 77})
	if !slices.Equal(second, want) || !slices.Equal(e, parsed(t, s.text, s.vars)) {
		t.Errorf("changing the derivative of %q changes another to %v or the argument to %v", s.text, second, e)
	}
	checkDerive(t, s.expression, s.vars, 0)
}

// P1: calls at the same time do not influence each other.
func TestParallelCalls(t *testing.T) {
	work := samples()[:1000]
	done := make(chan bool)
	for k := range 4 {
		go func() {
			ok := true
			for i := range work {
				s := work[(i*7+k*250)%len(work)]
				e, _ := regex.Parse(s.text, s.vars)
				w := s.words[i%len(s.words)]
				is, fault := match.Accepts(e, s.vars, w)
				ok = ok && fault == api.OK && is == s.ends(w)[0].has(len(w))
				if s.plain {
					d, _ := match.Derive(e, s.vars, 0)
					want, _ := regex.Parse(s.derivative(0).text, s.vars)
					ok = ok && slices.Equal(d, want)
				}
			}
			done <- ok
		}()
	}
	for range 4 {
		if !<-done {
			t.Error("a call in parallel has another result")
		}
	}
}
