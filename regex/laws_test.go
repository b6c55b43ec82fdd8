package regex_test

import (
	"slices"
	"strings"
	"testing"

	"sentinel/api"
	"sentinel/regex"
)

// P4.4

func TestParseInvertsFormat(t *testing.T) {
	for _, s := range samples() {
		text, _ := regex.Format(s.pieces(), s.vars)
		if e, fault := regex.Parse(text, s.vars); fault != api.OK || !slices.Equal(e, s.pieces()) {
			t.Errorf("Parse(%q, %d) = %v, %d, want %v", text, s.vars, e, fault, s.pieces())
		}
	}
}

// Every string is either the text of the expression that Parse returns or not parsed.
func TestFormatInvertsParse(t *testing.T) {
	parsed := 0
	check := func(s string, vars int) {
		e, fault := regex.Parse(s, vars)
		if fault != api.OK {
			return
		}
		parsed++
		if text, fault := regex.Format(e, vars); fault != api.OK || text != s {
			t.Fatalf("Format(Parse(%q, %d)) = %q, %d", s, vars, text, fault)
		}
	}
	short := []string{""}
	for range 4 {
		var longer []string
		for _, s := range short {
			for _, sign := range strings.Split("01[]().|&~*<>!ab \n", "") {
				longer = append(longer, s+sign)
			}
		}
		for _, s := range longer {
			check(s, 2)
			check("("+s+")", 2)
			check("[a"+s+"]", 2)
		}
		short = longer
	}
	for _, s := range samples() {
		check(s.text(), s.vars)
		check(s.text(), 6)
	}
	if parsed < 2*len(samples()) {
		t.Errorf("only %d texts have been parsed", parsed)
	}
}

func TestReversingTwice(t *testing.T) {
	for _, s := range samples() {
		once, a := regex.Reverse(s.pieces(), s.vars)
		twice, b := regex.Reverse(once, s.vars)
		if a != api.OK || b != api.OK || len(once) != len(s.pieces()) || !slices.Equal(twice, s.pieces()) {
			t.Errorf("%q reversed is %v, %d, and reversed again %v, %d", s.text(), once, a, twice, b)
		}
	}
}

// P4.5

func TestBlocksOfPlainExpressionsAreValid(t *testing.T) {
	for _, s := range samples() {
		e := s.pieces()
		if plain, _ := regex.Plain(e, s.vars); !plain {
			continue
		}
		for i := range e {
			block, a := regex.Block(e, s.vars, i)
			b := regex.Check(block, s.vars)
			plain, c := regex.Plain(block, s.vars)
			if a != api.OK || b != api.OK || c != api.OK || !plain {
				t.Errorf("Block(%q, %d, %d) = %v, %d; Check = %d, Plain = %t, %d", s.text(), s.vars, i, block, a, b, plain, c)
			}
		}
	}
}

func TestTextsContainThoseOfTheChildren(t *testing.T) {
	textOfBlock := func(e api.Regex, vars, i int) string {
		block, a := regex.Block(e, vars, i)
		text, b := regex.Format(block, vars)
		if a != api.OK || b != api.OK || text == "" {
			t.Fatalf("the block of piece %d of %v is %v, %d with the text %q, %d", i, e, block, a, text, b)
		}
		return text
	}
	for _, s := range samples() {
		e := s.pieces()
		for i, p := range e {
			text := textOfBlock(e, s.vars, i)
			for _, child := range []int{p.A, p.B}[:arity[p.Op]] {
				if below := textOfBlock(e, s.vars, child); !strings.Contains(text, below) || text == below {
					t.Errorf("the text %q of piece %d does not contain %q", text, i, below)
				}
			}
		}
	}
}
