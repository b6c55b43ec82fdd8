package nfa_test

import (
	"math"
	"slices"
	"testing"

	"sentinel/api"
	"sentinel/bitset"
	"sentinel/nfa"
)

// makers returns the functions whose result is an automaton.
func makers() map[string]func(n api.NFA) (api.NFA, api.Errno) {
	return map[string]func(n api.NFA) (api.NFA, api.Errno){
		"Trim":         nfa.Trim,
		"Reverse":      nfa.Reverse,
		"Union":        func(n api.NFA) (api.NFA, api.Errno) { return nfa.Union(n, n) },
		"first Union":  func(n api.NFA) (api.NFA, api.Errno) { return nfa.Union(n, api.NFA{Vars: n.Vars}) },
		"second Union": func(n api.NFA) (api.NFA, api.Errno) { return nfa.Union(api.NFA{Vars: n.Vars}, n) },
	}
}

// wild returns an automaton that has few chances of being valid.
func (c *choice) wild() api.NFA {
	numbers := []int{math.MinInt, -1, 0, 0, 0, 1, 1, 2, 2, 64, 65, math.MaxInt}
	small := func() int { return c.below(4) - c.below(2)*c.below(2)*c.below(2) }
	n := api.NFA{Vars: c.below(3), States: 2 + c.below(2)}
	if c.below(4) == 0 {
		n.Vars, n.States = numbers[c.below(len(numbers))], numbers[c.below(len(numbers))]
	}
	for _, l := range []*[]int{&n.Start, &n.Final} {
		for range c.below(3) {
			*l = append(*l, small())
		}
	}
	for range []int{0, 1, 2, 3, 512, 513}[c.below(4)+c.below(2)*c.below(3)] {
		n.Edges = append(n.Edges, api.Edge{From: c.below(2), To: c.below(2)})
		if x := &n.Edges[len(n.Edges)-1]; c.below(4) == 0 {
			x.From, x.To, x.Pos, x.Neg = small(), small(), uint8(c.below(4)), uint8(c.below(4)*c.below(2))
		}
	}
	return n
}

// faultOfWord returns the error of the functions on words if that of the automaton is known.
func faultOfWord(fault api.Errno, vars int, w []uint8) api.Errno {
	switch {
	case fault != api.OK:
		return fault
	case len(w) > 64:
		return api.ErrLong
	case slices.ContainsFunc(w, func(x uint8) bool { return int(x) >= 1<<vars }):
		return api.ErrArg
	}
	return api.OK
}

// checkWordErrors checks the functions on words and letters; with an error there must be no result.
func checkWordErrors(t *testing.T, n api.NFA, w []uint8, x uint8, fault api.Errno) {
	t.Helper()
	want := faultOfWord(fault, n.Vars, w)
	if s, e := nfa.Run(n, w); e != want || e != api.OK && s != nil {
		t.Errorf("Run(%v, %d) = %x, %d, want the error %d", n, w, s, e, want)
	}
	if is, e := nfa.Accepts(n, w); e != want || e != api.OK && is {
		t.Errorf("Accepts(%v, %d) = %t, %d, want the error %d", n, w, is, e, want)
	}
	want = faultOfWord(fault, n.Vars, []uint8{x})
	if s, e := nfa.After(n, api.Set{7, 1}, x); e != want || e != api.OK && s != nil {
		t.Errorf("After(%v, %d) = %x, %d, want the error %d", n, x, s, e, want)
	}
}

// R1 and R2: no function panics, the error of Check comes first, and with an error there is no result.
func TestErrorsOfAnyArguments(t *testing.T) {
	draw := choice(67)
	counts := map[api.Errno]int{}
	for range 30000 {
		n := draw.wild()
		fault := errorOf(n)
		counts[fault]++
		if e := nfa.Check(n); e != fault {
			t.Errorf("Check(%v) = %d, want %d", n, e, fault)
		}
		w := make([]uint8, []int{0, 1, 2, 3, 64, 65}[draw.below(6)])
		for i := range w {
			w[i] = uint8(draw.below(2) * draw.below(2) * draw.below(6))
		}
		checkWordErrors(t, n, w, uint8(draw.below(6)), fault)
		for name, f := range map[string]func(api.NFA) (api.Set, api.Errno){"Reachable": nfa.Reachable, "Productive": nfa.Productive} {
			if s, e := f(n); e != fault || e != api.OK && s != nil {
				t.Errorf("%s of %v = %x, %d, want the error %d", name, n, s, e, fault)
			}
		}
		for name, f := range makers() {
			want := fault
			if name == "Union" && fault == api.OK && (n.States > 32 || len(n.Edges) > 256) {
				want = api.ErrLong
			}
			if m, e := f(n); e != want || e != api.OK && !same(m, api.NFA{}) {
				t.Errorf("%s of %v = %v, %d, want the error %d", name, n, m, e, want)
			}
		}
	}
	for _, e := range []api.Errno{api.OK, api.ErrArg, api.ErrForm, api.ErrLong, api.ErrVars, api.ErrState} {
		if counts[e] < 100 {
			t.Errorf("only %d automata have the error %d", counts[e], e)
		}
	}
}

// R2: the length of a word is checked before its letters, and both after the automaton.
func TestOrderOfWordErrors(t *testing.T) {
	long := slices.Repeat([]uint8{9}, 65)
	for _, x := range []struct {
		n    api.NFA
		w    []uint8
		want api.Errno
	}{
		{second(), long, api.ErrLong},
		{second(), long[:64], api.ErrArg},
		{second(), append(make([]uint8, 63), 2), api.ErrArg},
		{second(), make([]uint8, 64), api.OK},
		{second(), make([]uint8, 65), api.ErrLong},
		{second(), make([]uint8, 100000), api.ErrLong},
		{api.NFA{States: 1, Start: []int{1}}, long, api.ErrState},
		{api.NFA{Vars: -1}, long, api.ErrVars},
	} {
		checkWordErrors(t, x.n, x.w, 1, errorOf(x.n))
		if _, e := nfa.Run(x.n, x.w); e != x.want {
			t.Errorf("Run of %d letters returned the error %d, want %d", len(x.w), e, x.want)
		}
	}
}

// R1: nil and empty slices are equivalent.
func TestNilIsEmpty(t *testing.T) {
	n := api.NFA{Vars: 1, States: 2}
	m := api.NFA{Vars: 1, States: 2, Start: []int{}, Final: []int{}, Edges: []api.Edge{}}
	for name, f := range makers() {
		a, e := f(n)
		b, g := f(m)
		if e != api.OK || g != api.OK || !same(a, b) {
			t.Errorf("%s of nil slices is %v, %d, of empty ones %v, %d", name, a, e, b, g)
		}
	}
	for _, a := range []api.NFA{n, m} {
		for _, w := range [][]uint8{nil, {}, {1}} {
			checkRun(t, a, w, row{}, false)
		}
		for _, s := range []api.Set{nil, {}, {3}} {
			r, e := nfa.After(a, s, 1)
			checkSet(t, "After", a, r, e, row{})
		}
		r, e := nfa.Reachable(a)
		checkSet(t, "Reachable", a, r, e, row{})
	}
}

// padded returns an automaton with invalid elements in the memory behind its slices.
func padded(n api.NFA) api.NFA {
	n.Start = append(slices.Clone(n.Start), -1, 99)[:len(n.Start)]
	n.Final = append(slices.Clone(n.Final), 99, -1)[:len(n.Final)]
	n.Edges = append(slices.Clone(n.Edges), api.Edge{From: -1, To: 99, Pos: 255, Neg: 255})[:len(n.Edges)]
	return n
}

// whole returns an automaton with the memory behind its slices.
func whole(n api.NFA) api.NFA {
	n.Start, n.Final, n.Edges = n.Start[:cap(n.Start)], n.Final[:cap(n.Final)], n.Edges[:cap(n.Edges)]
	return n
}

// R3: arguments are not changed, and what is beyond their length is not read.
func TestArgumentsAreLeft(t *testing.T) {
	for _, s := range someSamples(5) {
		n := padded(s.NFA)
		w := append(slices.Clone(s.words[len(s.words)-1]), 255, 1)
		from := append(api.Set{5}, 7, 9)
		before, word, set := copied(whole(n)), slices.Clone(w), slices.Clone(from)
		checkRun(t, n, w[:len(w)-2], endsOf(s.NFA, rowOf(s.Start), w[:len(w)-2]), accepts(s.NFA, w[:len(w)-2]))
		if a, e := nfa.After(n, from[:1], 0); e != api.OK || !slices.Equal(a, after(t, s.NFA, api.Set{5}, 0)) {
			t.Errorf("After(%v, 5, 0) = %x, %d", s.NFA, a, e)
		}
		reachable, productive := usesOf(s.NFA)
		r, e := nfa.Reachable(n)
		checkSet(t, "Reachable", n, r, e, reachable)
		p, e := nfa.Productive(n)
		checkSet(t, "Productive", n, p, e, productive)
		for name, f := range makers() {
			m, e := f(n)
			if want, fault := f(s.NFA); e != fault || !same(m, want) {
				t.Errorf("%s of %v = %v, %d, want %v, %d", name, s.NFA, m, e, want, fault)
			}
		}
		if !same(whole(n), before) || !slices.Equal(w, word) || !slices.Equal(from, set) {
			t.Errorf("the arguments %v, %d and %x have become %v, %d and %x", before, word, set, n, w, from)
		}
	}
}

// overwrite changes all the memory that a slice can reach.
func overwrite[E any](s []E, value E) {
	s = s[:cap(s)]
	for i := range s {
		s[i] = value
	}
}

// R3: resulting automata share no memory with arguments, with each other or within themselves.
func TestAutomataShareNoMemory(t *testing.T) {
	for _, s := range someSamples(5) {
		// Sharing one list in the argument must not lead to sharing in the result.
		shared := copied(s.NFA)
		shared.Final = shared.Start
		for _, n := range []api.NFA{copied(s.NFA), shared} {
			before := copied(n)
			for name, f := range makers() {
				a, _ := f(n)
				b, _ := f(n)
				want := copied(b)
				overwrite(a.Start, -7)
				if !slices.Equal(a.Final, want.Final) {
					t.Errorf("%s: Start and Final share memory", name)
				}
				overwrite(a.Final, -7)
				overwrite(a.Edges, api.Edge{From: -7, To: -7, Pos: 77, Neg: 77})
				if !same(b, want) || !same(n, before) {
					t.Errorf("changing the result of %s changes another to %v or the argument to %v", name, b, n)
				}
				c := copied(n)
				r, _ := f(c)
				overwrite(c.Start, -7)
				overwrite(c.Final, -7)
				overwrite(c.Edges, api.Edge{From: -7, To: -7, Pos: 77, Neg: 77})
				if !same(r, want) {
					t.Errorf("changing the argument of %s changes the result to %v", name, r)
				}
			}
		}
	}
}

// R3: resulting sets share no memory with arguments or with each other.
func TestSetsShareNoMemory(t *testing.T) {
	for _, s := range someSamples(5) {
		from := api.Set{21}
		makers := map[string]func() (api.Set, api.Errno){
			"After":      func() (api.Set, api.Errno) { return nfa.After(s.NFA, from, 0) },
			"Run":        func() (api.Set, api.Errno) { return nfa.Run(s.NFA, nil) },
			"Reachable":  func() (api.Set, api.Errno) { return nfa.Reachable(s.NFA) },
			"Productive": func() (api.Set, api.Errno) { return nfa.Productive(s.NFA) },
		}
		for name, f := range makers {
			first, _ := f()
			second, _ := f()
			want := slices.Clone(second)
			overwrite(first, 77)
			if !slices.Equal(second, want) || !slices.Equal(from, api.Set{21}) {
				t.Errorf("%s: the result shares memory", name)
			}
			overwrite(second, 77)
			if again, e := f(); e != api.OK || !slices.Equal(again, want) {
				t.Errorf("%s = %x, later %x, %d", name, want, again, e)
			}
		}
	}
}

// P1: calls at the same time do not influence each other.
func TestParallelCalls(t *testing.T) {
	work := someSamples(3)
	done := make(chan bool)
	for k := range 4 {
		go func() {
			ok := true
			for i := range work {
				s := work[(i*7+k*50)%len(work)]
				w := s.words[i%len(s.words)]
				is, e := nfa.Accepts(s.NFA, w)
				n, g := nfa.Trim(s.NFA)
				r, h := nfa.Reachable(s.NFA)
				reachable, _ := usesOf(s.NFA)
				ok = ok && e == api.OK && g == api.OK && h == api.OK &&
					is == accepts(s.NFA, w) && same(n, trimmedOf(s.NFA)) && bitset.Equal(r, reachable.set())
			}
			done <- ok
		}()
	}
	for range 4 {
		if !<-done {
			t.Error("a call in parallel has another result")
		}
	}
}
