package fix_test

import (
	"math"
	"testing"

	"paraphrast/api"
	"paraphrast/fix"
	"paraphrast/formula"
)

// arguments are those of all functions.
type arguments struct {
	Defs  []api.Def
	S     api.Structure
	Tuple []int
	I     int
	F     api.Formula
}

// results are those of all functions: each in its place.
type results struct {
	Rels   []api.Rel
	Steps  int
	Stages [][][]int
	Enters int
	One    api.Formula
	Defs   []api.Def
	Flat   api.Formula
	Errors [6]api.Errno
}

// call calls all functions.
func call(a arguments) results {
	var r results
	var d api.Def
	if len(a.Defs) > 0 {
		d = a.Defs[0]
	}
	r.Rels, r.Errors[0] = fix.Solve(a.Defs, a.S)
	r.Steps, r.Errors[1] = fix.Steps(a.Defs, a.S)
	r.Stages, r.Errors[2] = fix.Stages(d, a.S)
	r.Enters, r.Errors[3] = fix.Enters(d, a.S, a.Tuple)
	r.One, r.Errors[4] = fix.One(a.Defs, a.I)
	r.Defs, r.Flat, r.Errors[5] = fix.Flat(a.F)
	return r
}

// zero reports whether the results that come with errors are zero values.
func (r results) zero() bool {
	none := []bool{len(r.Rels) == 0, r.Steps == 0, len(r.Stages) == 0, r.Enters == 0, formula.Same(r.One, api.Formula{}), len(r.Defs) == 0 && formula.Same(r.Flat, api.Formula{})}
	for i, e := range r.Errors {
		if e != api.OK && !none[i] {
			return false
		}
	}
	return true
}

// arguments makes arguments for which most functions have results.
func (m maker) arguments() arguments {
	a := arguments{Defs: m.system(4, 2), S: m.structure(1 + m.Intn(3)), F: m.nested("x", "y")}
	for range a.Defs[0].Vars {
		a.Tuple = append(a.Tuple, m.Intn(a.S.Size))
	}
	a.I = m.Intn(len(a.Defs))
	return a
}

// TestEveryCallReturns is rules R1 and R3, for formulas of all sorts, few of which are valid.
func TestEveryCallReturns(t *testing.T) {
	s := structure(t, "2; R/1 0")
	valid := 0
	try := func(f api.Formula) {
		is := formula.Valid(f)
		for _, defs := range [][]api.Def{{{Name: "S", Vars: names("x y"), Body: f}}, {{Name: "S", Vars: names("x"), Body: and()}, {Name: "R", Vars: names("x y"), Body: f}}} {
			r := call(arguments{defs, s, []int{0, 0}, 0, f})
			if !r.zero() || !is && (r.Errors[0] != api.ErrForm || r.Errors[1] != api.ErrForm || r.Errors[4] != api.ErrForm || r.Errors[5] != api.ErrForm) {
				t.Errorf("for a formula of kind %d, which is valid: %v, the results are %v", f.Kind, is, r)
			}
		}
		if is {
			valid++
		}
	}
	for _, kind := range []int{math.MinInt, -1, 0, 1, 2, 3, 4, 5, 6, 7, 8, 9, 10, 11, 12, math.MaxInt} {
		for _, arity := range []int{math.MinInt, 0, 1, 13, math.MaxInt} {
			for _, list := range [][]string{nil, {""}, {"x"}, {"x", "y"}, {"x", "x"}, {"\xff", "and"}, make([]string, 30)} {
				for _, kids := range [][]api.Formula{nil, {{}}, {{Kind: api.FAnd}}, make([]api.Formula, 3)} {
					try(api.Formula{Kind: kind, Arity: arity, Name: "R", Vars: list, Args: list, Kids: kids})
					try(api.Formula{Kind: kind, Arity: arity, Vars: list, Kids: kids})
					try(api.Formula{Kind: kind, Arity: arity, Args: list, Kids: kids})
				}
			}
		}
	}
	endless := and(and())
	endless.Kids[0] = endless
	try(endless)
	endless = lfp("R", "x", and(), "x")
	endless.Kids[0] = endless
	try(endless)
	try(deep(60, and()))
	try(deep(59, and()))
	try(and(repeat(3999, and())...))
	try(and(repeat(4000, and())...))
	if valid < 20 {
		t.Errorf("only %d of the formulas are valid", valid)
	}
}

// TestOddArguments has arguments other than formulas.
func TestOddArguments(t *testing.T) {
	d := def(t, "R x: P(x)")
	s := structure(t, "2; P/1 1")
	for _, defs := range append(broken(t), nil, []api.Def{d}) {
		for _, s := range []api.Structure{{}, {Size: math.MinInt}, {Size: 2, Rels: make([]api.Rel, 1<<16)}, {Size: 1, Rels: []api.Rel{{Name: "P", Arity: math.MinInt}}}, s} {
			for _, tuple := range [][]int{nil, {math.MinInt}, {math.MaxInt}, {2}, {-1}, {0, 0}, make([]int, 1<<16)} {
				a := arguments{defs, s, tuple, len(tuple), api.Formula{}}
				if r := call(a); !r.zero() || r.Errors[3] == api.OK || r.Errors[4] == api.OK && len(tuple) > 0 {
					t.Errorf("for %s, the results are %v", writeDefs(defs), r)
				}
			}
		}
	}
}

// TestNilAndEmptySlices is rule R4, and R6: a second call has the same results.
func TestNilAndEmptySlices(t *testing.T) {
	m := newMaker(8)
	for range 300 {
		a := m.arguments()
		want := call(a)
		if r := call(copied(a, false)); !equal(r, want) {
			t.Errorf("with nil slices, the results for %s are %v instead of %v", writeDefs(a.Defs), r, want)
		}
		if r := call(copied(a, true)); !equal(r, want) {
			t.Errorf("with empty slices, the results for %s are %v instead of %v", writeDefs(a.Defs), r, want)
		}
		if r := call(a); !equal(r, want) {
			t.Errorf("the second time, the results for %s are %v instead of %v", writeDefs(a.Defs), r, want)
		}
		if !want.zero() {
			t.Errorf("some results for %s are not zero values: %v", writeDefs(a.Defs), want)
		}
	}
}

// TestMemory is rule R5: the functions change no argument, and their results share no memory with these or with one another.
func TestMemory(t *testing.T) {
	m := newMaker(9)
	for range 200 {
		kept := m.arguments()
		a := copied(kept, true)
		r := call(a)
		want := copied(r, false)
		if !equal(a, kept) || !marked(a) {
			t.Fatalf("the arguments %v become %v", kept, a)
		}
		scribble(r)
		if !equal(a, kept) || !marked(a) {
			t.Fatalf("writing to the results changes the arguments %v to %v", kept, a)
		}
		r = call(a)
		if !equal(r, want) {
			t.Fatalf("writing to the results for %v changes those of the next call to %v", kept, r)
		}
		scribble(a)
		if !equal(r, want) {
			t.Fatalf("writing to the arguments %v changes the results to %v", kept, r)
		}
		if !apart(r) {
			t.Errorf("some slices of the results for %v share memory", kept)
		}
	}
}

// TestSharedArguments has arguments whose slices share memory, though the results may not.
func TestSharedArguments(t *testing.T) {
	s := structure(t, "3; E/2 0,1 1,2; P/1 1")
	vars := names("x y")
	part := some("z", and(rel("E", "x z"), rel("R", "z y")))
	r := or(rel("E", "x y"), part, part)
	r.Kids[0].Args = vars
	inner := lfp("S", "x y", or(rel("S", "x y"), rel("P", "x")), "x y")
	inner.Vars, inner.Args = vars, vars
	a := arguments{
		Defs:  []api.Def{{Name: "R", Vars: vars, Body: r}, {Name: "S", Vars: vars, Body: r}, {Name: "T", Vars: vars, Body: or(inner, inner)}},
		S:     s,
		Tuple: []int{0, 1},
		F:     or(inner, inner, lfp("R", "x y", or(r, inner), "x y")),
	}
	a.S.Rels = append(a.S.Rels, api.Rel{Name: "U", Arity: 1, Tuples: a.S.Rels[1].Tuples})
	want := call(copied(a, true))
	got := call(a)
	if !equal(got, want) || want.Errors != [6]api.Errno{} {
		t.Errorf("the results are %v instead of %v", got, want)
	}
	if !apart(got) {
		t.Errorf("some slices of the results %v share memory", got)
	}
}
