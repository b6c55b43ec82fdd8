package project_test

import (
	"slices"
	"testing"

	"sentinel/api"
	"sentinel/boolean"
	"sentinel/internal/dfatest"
	"sentinel/project"
)

// laws returns what the functions of two packages return without an error, which ends the test.
type laws struct{ *testing.T }

// result returns the automaton that a function has returned without an error.
func (t laws) result(m api.DFA, e api.Errno) api.DFA {
	t.Helper()
	if e != api.OK {
		t.Fatalf("the error %d", e)
	}
	return m
}

func (t laws) exists(d api.DFA, v int) api.DFA {
	t.Helper()
	return t.result(project.Exists(d, v, api.MaxComputed))
}

func (t laws) forall(d api.DFA, v int) api.DFA {
	t.Helper()
	return t.result(project.Forall(d, v, api.MaxComputed))
}

func (t laws) not(d api.DFA) api.DFA {
	t.Helper()
	return t.result(boolean.Not(d))
}

// same checks a law for an automaton.
func (t laws) same(law string, d, left, right api.DFA) {
	t.Helper()
	if !dfatest.Same(left, right) {
		t.Errorf("%s: for %v the sides are %v and %v", law, d, left, right)
	}
}

// included checks that b accepts what a accepts.
func (t laws) included(law string, a, b api.DFA) {
	t.Helper()
	if w, is, e := boolean.Included(a, b); !is || e != api.OK {
		t.Errorf("%s: %d is accepted by %v, but not by %v, error %d", law, w, a, b, e)
	}
}

// composed returns the renaming that renames as one does and then another one.
func composed(first, second []int) []int {
	var l []int
	for _, v := range first {
		l = append(l, second[v])
	}
	return l
}

// inverse returns the renaming that undoes another one.
func inverse(perm []int) []int {
	l := make([]int, len(perm))
	for k := range l {
		l[k] = slices.Index(perm, k)
	}
	return l
}

// P11.4

func TestQuantifiersAreDual(t *testing.T) {
	f := laws{t}
	for _, s := range samples() {
		f.same("Forall = Not Exists Not", s.d, f.forall(s.d, s.v), f.not(f.exists(f.not(s.d), s.v)))
		f.same("Exists = Not Forall Not", s.d, f.exists(s.d, s.v), f.not(f.forall(f.not(s.d), s.v)))
	}
}

func TestQuantifiersIncludeWords(t *testing.T) {
	f := laws{t}
	for _, s := range samples() {
		f.included("Exists", s.d, f.exists(s.d, s.v))
		f.included("Forall", f.forall(s.d, s.v), s.d)
	}
}

func TestQuantifyingTwice(t *testing.T) {
	f := laws{t}
	for _, s := range samples() {
		some, every := f.exists(s.d, s.v), f.forall(s.d, s.v)
		f.same("Exists Exists", s.d, f.exists(some, s.v), some)
		f.same("Forall Exists", s.d, f.forall(some, s.v), some)
		f.same("Forall Forall", s.d, f.forall(every, s.v), every)
		f.same("Exists Forall", s.d, f.exists(every, s.v), every)
		for _, m := range []api.DFA{some, every} {
			checkIgnores(t, m, s.v, true, api.OK)
		}
	}
}

func TestQuantifiersCommute(t *testing.T) {
	f := laws{t}
	different := 0
	for _, s := range samples() {
		if len(s.d.Next) > 4 { // with more states, there can be very many sets of sets
			continue
		}
		for u := range s.d.Vars {
			f.same("Exists u v", s.d, f.exists(f.exists(s.d, u), s.v), f.exists(f.exists(s.d, s.v), u))
			f.same("Forall u v", s.d, f.forall(f.forall(s.d, u), s.v), f.forall(f.forall(s.d, s.v), u))
			left, right := f.exists(f.forall(s.d, u), s.v), f.forall(f.exists(s.d, s.v), u)
			f.included("Exists v Forall u", left, right)
			if !dfatest.Same(left, right) {
				different++
			}
		}
	}
	if different < 50 {
		t.Errorf("quantifiers of two kinds commute but for %d samples", different)
	}
}

// Exists is monotonous and distributes over Or, Forall over And.
func TestQuantifiersDistribute(t *testing.T) {
	f := laws{t}
	draw := dfatest.Choice(115)
	for range 150 {
		vars := 1 + draw.Below(3)
		a, b, v := sparse(&draw, vars, 2+draw.Below(4)), draw.Automaton(vars, 1+draw.Below(4)), draw.Below(vars)
		either, both := f.result(boolean.Or(a, b)), f.result(boolean.And(a, b))
		f.same("Exists Or", a, f.exists(either, v), f.result(boolean.Or(f.exists(a, v), f.exists(b, v))))
		f.same("Forall And", a, f.forall(both, v), f.result(boolean.And(f.forall(a, v), f.forall(b, v))))
		f.included("Exists And", f.exists(both, v), f.exists(a, v))
		f.included("Forall Or", f.forall(b, v), f.forall(either, v))
	}
}

// A language ignores a variable exactly if quantifying over it does not change it.
func TestIgnoringIsQuantifying(t *testing.T) {
	f := laws{t}
	for _, s := range samples() {
		m := dfatest.Minimized(s.d)
		is, e := project.Ignores(s.d, s.v)
		if e != api.OK || is != dfatest.Same(f.exists(s.d, s.v), m) || is != dfatest.Same(f.forall(s.d, s.v), m) {
			t.Errorf("Ignores(%v, %d) = %t, %d, but the quantifiers do not agree", s.d, s.v, is, e)
		}
	}
}

// P11.5

func TestDropInvertsInsert(t *testing.T) {
	f := laws{t}
	for _, s := range samples() {
		m := dfatest.Minimized(s.d)
		for v := range min(s.d.Vars+1, api.MaxVars) {
			if s.d.Vars < api.MaxVars {
				d := f.result(project.Insert(s.d, v))
				checkIgnores(t, d, v, true, api.OK)
				f.same("Drop Insert", s.d, f.result(project.Drop(d, v)), m)
			}
			if d, e := project.Drop(s.d, v); e == api.OK {
				f.same("Insert Drop", s.d, f.result(project.Insert(d, v)), m)
			}
		}
		some := f.exists(s.d, s.v)
		f.same("Insert Drop Exists", s.d, f.result(project.Insert(f.result(project.Drop(some, s.v)), s.v)), some)
	}
}

// An inserted variable changes neither what is inserted later nor what is quantified.
func TestInsertTwice(t *testing.T) {
	f := laws{t}
	for _, s := range samples() {
		if s.d.Vars > 4 {
			continue
		}
		for v := range s.d.Vars + 1 {
			above := f.result(project.Insert(f.result(project.Insert(s.d, v)), s.d.Vars+1))
			below := f.result(project.Insert(f.result(project.Insert(s.d, s.d.Vars)), v))
			f.same("Insert Insert", s.d, above, below)
			u := s.v
			if v <= u {
				u++
			}
			d := f.result(project.Insert(s.d, v))
			f.same("Exists Insert", s.d, f.exists(d, u), f.result(project.Insert(f.exists(s.d, s.v), v)))
			f.same("Forall Insert", s.d, f.forall(d, u), f.result(project.Insert(f.forall(s.d, s.v), v)))
		}
	}
}

func TestRenamingsCompose(t *testing.T) {
	f := laws{t}
	draw := dfatest.Choice(116)
	unlike := 0
	for _, s := range samples() {
		m := dfatest.Minimized(s.d)
		l := renamings(&draw, s.d.Vars)
		for _, p := range l {
			d := f.result(project.Rename(s.d, p...))
			f.same("Rename back", s.d, f.result(project.Rename(d, inverse(p)...)), m)
			for _, q := range l {
				left := f.result(project.Rename(d, q...))
				f.same("Rename Rename", s.d, left, f.result(project.Rename(s.d, composed(p, q)...)))
				if !dfatest.Same(left, f.result(project.Rename(s.d, composed(q, p)...))) {
					unlike++
				}
			}
		}
		var identity []int
		for k := range s.d.Vars {
			identity = append(identity, k)
		}
		f.same("Rename by the identity", s.d, f.result(project.Rename(s.d, identity...)), m)
	}
	if unlike < 500 {
		t.Errorf("only %d renamings do not commute", unlike)
	}
}

// Renaming renames the variables that are quantified and ignored.
func TestRenamingsAndQuantifiers(t *testing.T) {
	f := laws{t}
	draw := dfatest.Choice(117)
	for _, s := range samples() {
		for _, p := range renamings(&draw, s.d.Vars) {
			d := f.result(project.Rename(s.d, p...))
			f.same("Exists Rename", s.d, f.exists(d, p[s.v]), f.result(project.Rename(f.exists(s.d, s.v), p...)))
			f.same("Forall Rename", s.d, f.forall(d, p[s.v]), f.result(project.Rename(f.forall(s.d, s.v), p...)))
			checkIgnores(t, d, p[s.v], ignoredBy(s.d, s.v), api.OK)
			f.same("Not Rename", s.d, f.not(d), f.result(project.Rename(f.not(s.d), p...)))
		}
	}
}
