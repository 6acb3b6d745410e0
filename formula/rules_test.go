package formula_test

import (
	"math"
	"strings"
	"testing"

	"paraphrast/api"
	"paraphrast/formula"
)

// odd lists formulas of all sorts: rule R1 wants an answer for each of them.
func odd() []api.Formula {
	var l []api.Formula
	for _, kind := range []int{math.MinInt, -1, 0, 1, 2, 3, 4, 5, 6, 7, 8, 9, 10, 11, 12, 13, math.MaxInt} {
		for _, arity := range []int{math.MinInt, -1, 0, 1, 12, 13, math.MaxInt} {
			for _, list := range [][]string{nil, {}, {""}, {"x"}, {"x", "y"}, {"x", "x"}, {"\xff", "and"}, make([]string, 30)} {
				for _, kids := range [][]api.Formula{nil, {}, {{}}, {{Kind: api.FAnd}}, make([]api.Formula, 3)} {
					l = append(l,
						api.Formula{Kind: kind, Arity: arity, Name: "R", Vars: list, Args: list, Kids: kids},
						api.Formula{Kind: kind, Arity: arity, Vars: list, Kids: kids},
						api.Formula{Kind: kind, Arity: arity, Args: list, Kids: kids})
				}
			}
		}
	}
	return l
}

// TestEveryCallReturns is rule R1, and rule R3 for the formulas that are not valid.
func TestEveryCallReturns(t *testing.T) {
	for _, f := range append(odd(), randomFormulas(9, 2000)...) {
		ok := valid(f)
		wantValid(t, f, ok)
		text, e1 := formula.Text(f)
		is, e2 := formula.Positive(f, "R")
		l, symbols := formula.Free(f), formula.Symbols(f)
		size, depth := formula.Size(f), formula.Depth(f)
		wantSame(t, f, clone(f), true)
		if ok != (e1 == api.OK) || ok != (e2 == api.OK) || ok != (size > 0) || ok != (depth > 0) || ok != (text != "") {
			t.Errorf("%v is valid: %v, but the errors are %d and %d, the size is %d and the depth %d", f, ok, e1, e2, size, depth)
		}
		if !ok && (e1 != api.ErrForm || e2 != api.ErrForm || is || l != nil || symbols != nil) {
			t.Errorf("%v is not valid, but has errors %d, %d and results %v, %v, %v", f, e1, e2, is, l, symbols)
		}
	}
	for _, text := range []string{"", "\x00", "\xff\xfe", strings.Repeat("(", 1<<20), strings.Repeat("not(", 10000), strings.Repeat("9", 40000)} {
		if f, _, e := formula.Parse(text); e == api.OK || !equal(f, api.Formula{}) {
			t.Errorf("Parse(%.20q) is %v, error %d", text, f, e)
		}
		formula.Name(text)
	}
}

// TestNilAndEmptySlices is rule R4.
func TestNilAndEmptySlices(t *testing.T) {
	none, noKids := []string{}, []api.Formula{}
	pairs := []struct{ nils, empties api.Formula }{
		{api.Formula{Kind: api.FRel, Name: "Q"}, api.Formula{Kind: api.FRel, Name: "Q", Vars: none, Args: none, Kids: noKids}},
		{api.Formula{Kind: api.FEq, Args: []string{"x", "y"}}, api.Formula{Kind: api.FEq, Vars: none, Args: []string{"x", "y"}, Kids: noKids}},
		{api.Formula{Kind: api.FAnd}, api.Formula{Kind: api.FAnd, Vars: none, Args: none, Kids: noKids}},
		{api.Formula{Kind: api.FOr}, api.Formula{Kind: api.FOr, Vars: none, Args: none, Kids: noKids}},
		{api.Formula{Kind: api.FSecond, Name: "Q", Kids: []api.Formula{{Kind: api.FAnd}}}, api.Formula{Kind: api.FSecond, Name: "Q", Vars: none, Args: none, Kids: []api.Formula{{Kind: api.FAnd, Kids: noKids}}}},
		{api.Formula{Kind: api.FSome, Kids: []api.Formula{{}}}, api.Formula{Kind: api.FSome, Vars: none, Args: none, Kids: []api.Formula{{}}}},
	}
	for _, p := range pairs {
		ok := valid(p.nils)
		wantValid(t, p.nils, ok)
		wantValid(t, p.empties, ok)
		wantSame(t, p.nils, p.empties, true)
		wantSame(t, not(p.nils), not(p.empties), true)
		text1, e1 := formula.Text(p.nils)
		text2, e2 := formula.Text(p.empties)
		if text1 != text2 || e1 != e2 {
			t.Errorf("the texts of %v are %q, error %d, and %q, error %d", p.nils, text1, e1, text2, e2)
		}
		if formula.Size(p.nils) != formula.Size(p.empties) || formula.Depth(p.nils) != formula.Depth(p.empties) {
			t.Errorf("size or depth of %v are different for nil and empty slices", p.nils)
		}
	}
}

// roomy returns a copy of f whose slices have room behind their ends, filled with marks.
func roomy(f api.Formula) api.Formula {
	f.Vars = append(append([]string{}, f.Vars...), "mark", "mark")[:len(f.Vars)]
	f.Args = append(append([]string{}, f.Args...), "mark", "mark")[:len(f.Args)]
	kids := []api.Formula{}
	for _, kid := range f.Kids {
		kids = append(kids, roomy(kid))
	}
	f.Kids = append(kids, api.Formula{Name: "mark"})[:len(f.Kids)]
	return f
}

// overwritten reports whether something was written behind the end of a slice of roomy.
func overwritten(f api.Formula) bool {
	vars, args, kids := len(f.Vars), len(f.Args), len(f.Kids)
	if f.Vars[:vars+1][vars] != "mark" || f.Args[:args+1][args] != "mark" || f.Kids[:kids+1][kids].Name != "mark" {
		return true
	}
	for _, kid := range f.Kids {
		if overwritten(kid) {
			return true
		}
	}
	return false
}

// scribble overwrites all memory of f.
func scribble(f api.Formula) {
	for i := range f.Vars {
		f.Vars[i] = "scribbled"
	}
	for i := range f.Args {
		f.Args[i] = "scribbled"
	}
	for i := range f.Kids {
		scribble(f.Kids[i])
		f.Kids[i] = api.Formula{Name: "scribbled"}
	}
}

// TestArgumentsStay is rule R5 for arguments, and for results that are asked for twice.
func TestArgumentsStay(t *testing.T) {
	for _, g := range append(append(samples(t), odd()...), randomFormulas(10, 500)...) {
		f := roomy(g)
		formula.Valid(f)
		formula.Text(f)
		formula.Size(f)
		formula.Depth(f)
		formula.Positive(f, "R")
		formula.Same(f, g)
		l, symbols := formula.Free(f), formula.Symbols(f)
		for i := range l {
			l[i] = "scribbled"
		}
		for i := range symbols {
			symbols[i] = api.Symbol{Name: "scribbled"}
		}
		if !equal(f, g) || overwritten(f) {
			t.Errorf("the calls, or writing to their results, change %v to %v", g, f)
		}
		if len(l) > 0 && formula.Free(f)[0] == "scribbled" || len(symbols) > 0 && formula.Symbols(f)[0].Name == "scribbled" {
			t.Errorf("results for %v are retained", g)
		}
	}
}

// TestResultsStay is rule R5 for the results of Free and Symbols, whose argument changes afterwards.
func TestResultsStay(t *testing.T) {
	for _, text := range sample() {
		f := parse(t, text)
		l, symbols := formula.Free(f), formula.Symbols(f)
		scribble(f)
		f = parse(t, text)
		wantFree(t, f, l...)
		wantSymbols(t, f, symbols...)
	}
}

// TestResultsOfParse is rule R5 for the formulas that Parse returns: they share no memory, neither with each other nor within.
func TestResultsOfParse(t *testing.T) {
	for _, text := range append(sample(), "and(and(), x=x, x=x, P(x), P(x), some(x: true), some(x: true))") {
		want, _, _ := answer(text)
		f := parse(t, text)
		for _, part := range parts(f) {
			for range 10 {
				part.Vars = append(part.Vars, "appended")
				part.Args = append(part.Args, "appended")
				part.Kids = append(part.Kids, api.Formula{Name: "appended"})
			}
		}
		if !equal(f, want) {
			t.Errorf("parts of the result of %q share memory: %v", text, f)
		}
		scribble(f)
		g := parse(t, text)
		if !equal(g, want) {
			t.Errorf("Parse(%q) is %v the second time", text, g)
		}
		for i := range g.Kids {
			h := parse(t, text)
			scribble(h.Kids[i])
			h.Kids[i] = g.Kids[i]
			if !equal(h, want) {
				t.Errorf("kid %d of the result of %q shares memory with the rest", i, text)
			}
		}
	}
}

// TestSameCallsSameResults is rule R6.
func TestSameCallsSameResults(t *testing.T) {
	fs := append(samples(t), randomFormulas(11, 300)...)
	for round := range 3 {
		for _, f := range fs {
			g := clone(f)
			text1, e1 := formula.Text(f)
			text2, e2 := formula.Text(g)
			if text1 != text2 || e1 != e2 || formula.Valid(f) != formula.Valid(g) || formula.Valid(f) != valid(f) {
				t.Errorf("round %d: %v is %q, error %d, and then %q, error %d", round, f, text1, e1, text2, e2)
			}
			wantFree(t, g, formula.Free(f)...)
			wantSymbols(t, g, formula.Symbols(f)...)
		}
		for _, text := range []string{"?", "x y", "true", "exists(R 13: true)", "E(x y)"} {
			judge(t, text)
		}
	}
}
