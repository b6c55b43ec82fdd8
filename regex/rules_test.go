package regex_test

import (
	"math"
	"slices"
	"testing"

	"sentinel/api"
	"sentinel/regex"
)

// checkAll calls all functions that take an expression and checks that they return
// the error of Check, and then no result.
func checkAll(t *testing.T, e api.Regex, vars, i int) {
	t.Helper()
	want := regex.Check(e, vars)
	text, format := regex.Format(e, vars)
	reversed, reverse := regex.Reverse(e, vars)
	is, plain := regex.Plain(e, vars)
	block, state := regex.Block(e, vars, i)
	if format != want || reverse != want || plain != want {
		t.Errorf("Check(%v, %d) = %d, but the other errors are %d, %d and %d", e, vars, want, format, reverse, plain)
	}
	if want == api.OK && (i < 0 || i >= len(e)) {
		want = api.ErrState
	}
	if state != want || want != api.OK && len(block) > 0 {
		t.Errorf("Block(%v, %d, %d) = %v, %d, want the error %d", e, vars, i, block, state, want)
	}
	if format != api.OK && (text != "" || len(reversed) > 0 || is) {
		t.Errorf("the results for %v over %d variables are %q, %v and %t together with an error", e, vars, text, reversed, is)
	}
}

// R1 and R2: no function panics, and the error of Check comes first.
func TestTheErrorOfCheckComesFirst(t *testing.T) {
	numbers := []int{math.MinInt, -1, 0, 1, 2, math.MaxInt}
	draw := choice(44)
	for range 60000 {
		e := make(api.Regex, draw.below(5))
		for i := range e {
			e[i] = api.Piece{Op: uint8(draw.below(12)), A: draw.below(4) - 1, B: draw.below(4) - 1}
			if draw.below(4) == 0 {
				e[i] = api.Piece{Op: api.RxNone + uint8(draw.below(3)), Pos: uint8(draw.below(4)), Neg: uint8(draw.below(4))}
			}
			if draw.below(9) == 0 {
				e[i].A = numbers[draw.below(len(numbers))]
			}
			if draw.below(9) == 0 {
				e[i].B = numbers[draw.below(len(numbers))]
			}
		}
		checkAll(t, e, draw.below(9)-1, numbers[draw.below(len(numbers))])
	}
	for _, s := range samples() {
		e := s.pieces()
		for _, vars := range append(noNumbersOfVars(), s.vars, 0) {
			checkAll(t, e, vars, 0)
			checkAll(t, e, vars, len(e))
		}
		checkAll(t, append(e, api.Piece{Op: api.RxEmpty}), s.vars, 0)
		checkAll(t, append(e, api.Piece{Op: api.RxNot}), s.vars, -1)
	}
	for n := range 70 {
		checkAll(t, chain(n, api.RxStar, api.Piece{Op: api.RxEmpty}), 0, n)
		checkAll(t, chain(n, api.RxStar, api.Piece{Op: api.RxEmpty}), 0, n+1)
		checkAll(t, chain(n, api.RxBehind, api.Piece{Op: api.RxEmpty}), 0, 0)
	}
}

// R1: nil and empty slices are equivalent.
func TestNilIsEmpty(t *testing.T) {
	for _, vars := range []int{-1, 0, 6, 7} {
		a, b := regex.Check(nil, vars), regex.Check(api.Regex{}, vars)
		if a != b || a == api.OK {
			t.Errorf("Check of nil is %d, of the empty slice %d", a, b)
		}
		checkAll(t, nil, vars, 0)
		checkAll(t, api.Regex{}, vars, 0)
	}
}

// R3: arguments are not changed, and what is beyond their length is not read.
func TestArgumentsAreLeft(t *testing.T) {
	for _, s := range samples() {
		memory := append(s.pieces(), api.Piece{Op: 200, Pos: 9, Neg: 9, A: -5, B: 99}, api.Piece{Op: api.RxStar})
		before := slices.Clone(memory)
		e := memory[:len(memory)-2]
		regex.Plain(e, s.vars)
		if text, fault := regex.Format(e, s.vars); text != s.text() || fault != api.OK {
			t.Errorf("Format = %q, %d, want %q", text, fault, s.text())
		}
		for i := range len(e) + 1 {
			regex.Block(e, s.vars, i)
		}
		regex.Reverse(e, s.vars)
		if fault := regex.Check(e, s.vars); fault != api.OK || !slices.Equal(memory, before) {
			t.Errorf("Check = %d, and the memory of the argument %v has become %v", fault, before, memory)
		}
	}
}

// R3: results share no memory with arguments or with each other. P1: nothing is kept between calls.
func TestResultsShareNoMemory(t *testing.T) {
	for _, s := range samples() {
		e := s.pieces()
		last := len(e) - 1
		for name, call := range map[string]func() (api.Regex, api.Errno){
			"Parse":   func() (api.Regex, api.Errno) { return regex.Parse(s.text(), s.vars) },
			"Block":   func() (api.Regex, api.Errno) { return regex.Block(e, s.vars, last) },
			"Reverse": func() (api.Regex, api.Errno) { return regex.Reverse(e, s.vars) },
		} {
			first, a := call()
			second, b := call()
			want := slices.Clone(second)
			if a != api.OK || b != api.OK || !slices.Equal(first, want) {
				t.Fatalf("%s of %q returned %v, %d and %v, %d", name, s.text(), first, a, second, b)
			}
			overwrite(first, api.Piece{Op: 77, Pos: 77, Neg: 77, A: 77, B: 77})
			if !slices.Equal(second, want) || !slices.Equal(e, s.pieces()) {
				t.Errorf("changing a result of %s changes another to %v or the argument to %v", name, second, e)
			}
			if third, c := call(); c != api.OK || !slices.Equal(third, want) {
				t.Errorf("%s of %q returned %v and later %v, %d", name, s.text(), want, third, c)
			}
		}
	}
}

// overwrite changes all the memory that a slice can reach.
func overwrite[E any](s []E, value E) {
	s = s[:cap(s)]
	for i := range s {
		s[i] = value
	}
}

// P1: calls at the same time do not influence each other.
func TestParallelCalls(t *testing.T) {
	done := make(chan bool)
	work := samples()[:2000]
	for k := range 4 {
		go func() {
			ok := true
			for i := range work {
				s := work[(i*7+k*500)%len(work)]
				e, a := regex.Parse(s.text(), s.vars)
				text, b := regex.Format(e, s.vars)
				_, c := regex.Parse(s.text()[1:], s.vars)
				ok = ok && a == api.OK && b == api.OK && text == s.text() && c != api.OK
			}
			done <- ok
		}()
	}
	for range 4 {
		if !<-done {
			t.Error("a call in parallel has another result")
		}
	}
}
