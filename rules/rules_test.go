package rules_test

import (
	"math"
	"slices"
	"strings"
	"testing"

	"paraphrast/api"
	"paraphrast/formula"
	"paraphrast/rules"
)

// arguments are those of all functions.
type arguments struct {
	L     []api.Rule
	S     api.Structure
	Name  string
	Tuple []int
	P     api.Proof
	F     api.Formula
	Vars  []string
	Input string
}

// results are those of all functions: each in its place.
type results struct {
	Valid   bool
	Text    string
	Parsed  []api.Rule
	Names   []string
	Levels  []int
	Run     api.Structure
	Why     api.Proof
	Check   bool
	Formula api.Formula
	From    []api.Rule
	Name    string
	Errors  [7]api.Errno
}

// call calls all functions.
func call(a arguments) results {
	var r results
	r.Valid = rules.Valid(a.L)
	r.Text, r.Errors[0] = rules.Text(a.L)
	r.Parsed, r.Errors[1] = rules.Parse(a.Input)
	r.Names, r.Levels, r.Errors[2] = rules.Levels(a.L)
	r.Run, r.Errors[3] = rules.Run(a.L, a.S)
	r.Why, r.Errors[4] = rules.Why(a.L, a.S, a.Name, a.Tuple)
	r.Check = rules.Check(a.L, a.S, a.Name, a.Tuple, a.P)
	r.Formula, r.Errors[5] = rules.Formula(a.L, a.Name)
	r.From, r.Name, r.Errors[6] = rules.From(a.F, a.Vars)
	return r
}

// zero reports whether the results that come with errors are zero values.
func (r results) zero() bool {
	none := []bool{
		r.Text == "", len(r.Parsed) == 0, len(r.Names)+len(r.Levels) == 0, equal(r.Run, api.Structure{}), equal(r.Why, api.Proof{}),
		formula.Same(r.Formula, api.Formula{}), len(r.From) == 0 && r.Name == "",
	}
	for i, e := range r.Errors {
		if e != api.OK && !none[i] {
			return false
		}
	}
	return true
}

// arguments makes arguments for which most functions have results.
func (m maker) arguments() arguments {
	a := arguments{L: m.program(dress{3, 8, 3, 4, 2}), S: m.structure(1 + m.Intn(3)), Vars: words("x y")}
	a.Name = pick(m, defined(a.L)...)
	a.Tuple = pick(m, tuples(a.S.Size, arity(a.L, a.Name))...)
	a.P, _ = rules.Why(a.L, a.S, a.Name, a.Tuple)
	a.F = m.short(a.Vars, words("x y z v0"))
	a.Input, _ = rules.Text(a.L)
	a.Input = m.blanks(a.Input)
	return a
}

// TestEveryCallReturns is rules R1 and R3, for rules of all sorts, few of which are valid.
func TestEveryCallReturns(t *testing.T) {
	s := structure(t, "2; E/2 0,1; U/1 0")
	valid := 0
	lists := [][]string{nil, {""}, {"x"}, {"x", "y"}, {"x", "x"}, {"\xff", "and"}, make([]string, 30), slices.Repeat([]string{"x"}, 13)}
	for _, kind := range []int{math.MinInt, -1, 0, 1, 2, 3, 12, math.MaxInt} {
		for _, name := range []string{"", "P", "U", "E", "not", "\x00", strings.Repeat("P", 1<<10)} {
			for _, list := range lists {
				for _, neg := range []bool{false, true} {
					c := api.Cond{Kind: kind, Neg: neg, Atom: api.Atom{Name: name, Args: list}}
					for _, l := range [][]api.Rule{{{Body: []api.Cond{c}}}, {{Head: c.Atom}}, {rule(head("P", "x"), c)}, {rule(head("P", "x")), rule(head("Q", "y x"), c, c)}} {
						r := call(arguments{L: l, S: s, Name: name, Tuple: []int{0}, F: api.Formula{Kind: kind, Name: name, Args: list}, Vars: list, Input: name})
						want := api.OK
						if !r.Valid {
							want = api.ErrForm
						} else {
							valid++
						}
						for i, e := range r.Errors {
							if i != 1 && i != 6 && (e == api.ErrForm) != (want == api.ErrForm) {
								t.Errorf("for %v, error %d is %d", l, i, e)
							}
						}
						if !r.zero() {
							t.Errorf("for %v, the results are %v", l, r)
						}
					}
				}
			}
		}
	}
	if valid < 100 {
		t.Errorf("only %d of the programs are valid", valid)
	}
}

// TestOddArguments has arguments other than programs.
func TestOddArguments(t *testing.T) {
	l := program(t, paths)
	endless := api.Formula{Kind: api.FAnd, Kids: make([]api.Formula, 1)}
	endless.Kids[0] = endless
	round := []api.Proof{{Rule: 1, Values: []int{0, 1, 1}}}
	round[0].Parts = round
	for _, s := range []api.Structure{{}, {Size: math.MinInt}, {Size: 2, Rels: make([]api.Rel, 1<<16)}, {Size: 1, Rels: []api.Rel{{Name: "E", Arity: math.MinInt}}}, structure(t, "2; E/2 0,1")} {
		for _, tuple := range [][]int{nil, {math.MinInt, 0}, {math.MaxInt, 1}, {2, 2}, {-1, 0}, {0, 0}, make([]int, 1<<16)} {
			for _, p := range []api.Proof{{}, {Rule: math.MinInt}, {Rule: math.MaxInt, Values: tuple}, {Rule: 1, Values: make([]int, 1<<16)}, {Rule: 1, Values: tuple, Parts: make([]api.Proof, 1<<16)}, round[0]} {
				for _, f := range []api.Formula{{}, endless, {Kind: math.MaxInt}} {
					a := arguments{l, s, "P", tuple, p, f, make([]string, len(tuple)), strings.Repeat("P(", len(tuple))}
					if r := call(a); !r.zero() || r.Errors[4] == api.OK || r.Check || r.Errors[6] != api.ErrForm {
						t.Errorf("for %.5v and %.5v, the results are %v", s, tuple, r)
					}
				}
			}
		}
	}
}

// TestFirstError has all combinations of the mistakes of which functions name the first.
func TestFirstError(t *testing.T) {
	bad := []api.Rule{rule(head("P", "x"), not(rel("P", "x")))}
	large := program(t, "P(x) :- U(x). A(). B(). C(). D(). F(). G().")
	good := program(t, "P(x) :- U(x).")
	for i := range 1 << 6 {
		is := func(k int) bool { return i>>k&1 == 1 }
		l, name, tuple := good, "P", []int{0}
		s := structure(t, "2; U/1 0; V/0")
		if is(4) {
			l = large
		}
		if is(0) {
			l = bad
		}
		if is(2) {
			s.Rels[0].Name = "W"
		}
		if is(3) {
			s.Rels[1].Name = "P"
		}
		if is(1) {
			s.Size = 0
		}
		if is(5) {
			name = "U"
			tuple = []int{5}
		} else if is(4) {
			tuple = []int{1}
		}
		want := api.OK
		switch {
		case is(0) || is(1):
			want = api.ErrForm
		case is(2) || is(3):
			want = api.ErrName
		case is(4):
			want = api.ErrSize
		}
		if _, e := rules.Run(l, s); e != want {
			t.Errorf("Run with the mistakes %b is error %d", i, e)
		}
		why := want
		if want == api.OK && is(5) {
			why = api.ErrName
		}
		if _, e := rules.Why(l, s, name, tuple); e != why {
			t.Errorf("Why with the mistakes %b is error %d instead of %d", i, e, why)
		}
		if got := rules.Check(l, s, name, tuple, api.Proof{Values: []int{0}}); got != (i == 0) {
			t.Errorf("Check with the mistakes %b is %v", i, got)
		}
	}
	text := strings.Repeat("or(U(x), ", 30) + "E(x y)" + strings.Repeat(")", 30)
	f := parse(t, "or("+repeat(3, text)+")")
	for i := range 1 << 3 {
		g, vars, want := f, words("x y"), api.ErrSize
		if i&1 == 1 {
			vars = words("x")
			want = api.ErrArg
		}
		if i&2 == 2 {
			g = api.Formula{Kind: api.FAnd, Kids: []api.Formula{f, parse(t, "all(x: U(x))")}}
			want = api.ErrArg
		}
		if i&4 == 4 {
			g = api.Formula{Kind: api.FNot, Kids: []api.Formula{g, g}}
			want = api.ErrForm
		}
		if _, _, e := rules.From(g, vars); e != want {
			t.Errorf("From with the mistakes %b is error %d instead of %d", i, e, want)
		}
	}
}

// TestNilAndEmptySlices is rule R4, and R6: a second call has the same results.
func TestNilAndEmptySlices(t *testing.T) {
	m := newMaker(15)
	for range 300 {
		a := m.arguments()
		want := call(a)
		if r := call(copied(a, false)); !equal(r, want) {
			t.Errorf("with nil slices, the results for %v are %v instead of %v", a, r, want)
		}
		if r := call(copied(a, true)); !equal(r, want) {
			t.Errorf("with empty slices, the results for %v are %v instead of %v", a, r, want)
		}
		if r := call(a); !equal(r, want) {
			t.Errorf("the second time, the results for %v are %v instead of %v", a, r, want)
		}
		if !want.zero() || !want.Valid {
			t.Errorf("some results for %v are not zero values: %v", a, want)
		}
	}
}

// TestMemory is rule R5: the functions change no argument, and their results share no memory with these or with one another.
func TestMemory(t *testing.T) {
	m := newMaker(16)
	for range 300 {
		kept := m.arguments()
		a := copied(kept, true)
		r := call(a)
		want := copied(r, false)
		if !equal(a, kept) || !marked(a) {
			t.Fatalf("the arguments %v become %v", kept, a)
		}
		scribble(r)
		if !equal(a, kept) || !marked(a) {
			t.Fatalf("writing to the results changes the arguments %v to %v", kept, a)
		}
		r = call(a)
		if !equal(r, want) {
			t.Fatalf("writing to the results for %v changes those of the next call to %v", kept, r)
		}
		scribble(a)
		if !equal(r, want) {
			t.Fatalf("writing to the arguments %v changes the results to %v", kept, r)
		}
		if !apart(r) {
			t.Errorf("some slices of the results for %v share memory", kept)
		}
	}
}

// TestSharedArguments has arguments whose slices share memory, though the results may not.
func TestSharedArguments(t *testing.T) {
	xy := words("x y")
	body := []api.Cond{{Atom: api.Atom{Name: "E", Args: xy}}, {Atom: api.Atom{Name: "P", Args: xy}}}
	head := api.Atom{Name: "P", Args: xy}
	atom := api.Formula{Kind: api.FRel, Name: "E", Args: xy}
	some := api.Formula{Kind: api.FSome, Vars: xy, Kids: []api.Formula{atom}}
	steps := api.Formula{Kind: api.FTc, Vars: xy, Args: xy, Kids: []api.Formula{atom}}
	row := [][]int{{0, 1}}
	a := arguments{
		L:     []api.Rule{{Head: head, Body: body}, {Head: head, Body: body[:1]}, {Head: api.Atom{Name: "Q", Args: xy}, Body: body}},
		S:     api.Structure{Size: 2, Rels: []api.Rel{{Name: "E", Arity: 2, Tuples: row}, {Name: "F", Arity: 2, Tuples: row}}},
		Name:  "Q",
		Tuple: row[0],
		F:     api.Formula{Kind: api.FAnd, Kids: []api.Formula{some, some, steps, steps, atom, atom}},
		Vars:  xy,
	}
	a.P, _ = rules.Why(a.L, a.S, a.Name, a.Tuple)
	want := call(copied(a, true))
	got := call(a)
	if !equal(got, want) || want.Errors != [7]api.Errno{} || !want.Check {
		t.Errorf("the results are %v instead of %v", got, want)
	}
	if !apart(got) {
		t.Errorf("some slices of the results %v share memory", got)
	}
}
