package norm_test

import (
	"math"
	"slices"
	"testing"

	"paraphrast/api"
	"paraphrast/formula"
	"paraphrast/norm"
)

// odd lists formulas of all sorts, few of which are valid.
func odd() []api.Formula {
	var l []api.Formula
	for _, kind := range []int{math.MinInt, -1, 0, 1, 2, 3, 4, 5, 6, 7, 8, 9, 10, 11, 12, math.MaxInt} {
		for _, arity := range []int{math.MinInt, 0, 1, 13, math.MaxInt} {
			for _, list := range [][]string{nil, {""}, {"x"}, {"x", "y"}, {"x", "x"}, {"\xff", "and"}, make([]string, 30)} {
				for _, kids := range [][]api.Formula{nil, {{}}, {{Kind: api.FAnd}}, make([]api.Formula, 3)} {
					l = append(l,
						api.Formula{Kind: kind, Arity: arity, Name: "R", Vars: list, Args: list, Kids: kids},
						api.Formula{Kind: kind, Arity: arity, Vars: list, Kids: kids},
						api.Formula{Kind: kind, Arity: arity, Args: list, Kids: kids})
				}
			}
		}
	}
	endless := and(and())
	endless.Kids[0] = endless
	l = append(l, endless, deep(60, and()), and(repeat(4000, and())...))
	return append(l, defined(api.FLfp, "R", "x", not(rel("R", "x")), "x"), and(rel("R", "x"), rel("R", "x x")))
}

// TestEveryCallReturns is rules R1 and R3, and ErrForm.
func TestEveryCallReturns(t *testing.T) {
	valid := 0
	for _, f := range odd() {
		ok := formula.Valid(f)
		a, e1 := norm.Rank(f)
		b, e2 := norm.Width(f)
		if ok != (e1 == api.OK) || ok != (e2 == api.OK) {
			t.Errorf("%v is valid: %v, but its rank is %d, error %d, and its width %d, error %d", f.Kind, ok, a, e1, b, e2)
		}
		if ok {
			valid++
			for _, c := range changes() {
				if g, e := c.do(f); e != api.OK && !formula.Same(g, api.Formula{}) {
					t.Errorf("%s(%s) is %s, error %d", c.name, write(f), write(g), e)
				}
			}
			continue
		}
		if norm.First(f) || a != 0 || b != 0 || e1 != api.ErrForm || e2 != api.ErrForm {
			t.Errorf("a formula of kind %d is not valid, but First is %v, its rank is %d, error %d, and its width %d, error %d", f.Kind, norm.First(f), a, e1, b, e2)
		}
		for _, c := range changes() {
			g, e := c.do(f)
			wantError(t, c.name+" of a formula that is not valid", g, e, api.ErrForm)
		}
		g, e := norm.Replace(and(), api.Def{Name: "P", Body: f})
		wantError(t, "Replace by a formula that is not valid", g, e, api.ErrForm)
	}
	if valid < 20 {
		t.Errorf("only %d of the formulas are valid", valid)
	}
	norm.Rename(and(), string(make([]byte, 1<<20)), "x")
	norm.Replace(and(), api.Def{Name: "P", Vars: make([]string, 1<<20)})
}

// TestFirstError is rule R2: calls with all selections of errors return the first one.
func TestFirstError(t *testing.T) {
	bad := api.Formula{Kind: api.FKinds}
	for mistakes := range 1 << 4 {
		made := func(i int) bool { return mistakes>>i&1 == 1 }
		f, from, want := bound(api.FAll, "z", rel("E", "x y")), "x", api.OK
		to := "u"
		if made(3) {
			to, want = "z", api.ErrArg
		}
		if made(2) {
			from, want = "not", api.ErrName
		}
		if made(1) {
			to, want = "1", api.ErrName
		}
		if made(0) {
			f, want = and(f, bad), api.ErrForm
		}
		if g, e := norm.Rename(f, from, to); want != api.OK || e != api.OK {
			wantError(t, "Rename", g, e, want)
		}
		f, want = and(repeat(3990, rel("P", "x"))...), api.OK
		d := api.Def{Name: "P", Vars: names("x"), Body: rel("E", "x x")}
		if made(3) {
			d.Body, want = deep(59, d.Body), api.ErrSize
		}
		if made(2) {
			d.Vars, want = names("y"), api.ErrArg
		}
		if made(1) {
			d.Vars, want = names("y y"), api.ErrForm
		}
		if made(0) {
			f, want = and(f, bad), api.ErrForm
		}
		if g, e := norm.Replace(f, d); want != api.OK || e != api.OK {
			wantError(t, "Replace", g, e, want)
		}
	}
	large := and(repeat(900, bound(api.FSome, numbered("x", 12), rel("T", numbered("x", 12))))...)
	g, e := norm.Prenex(large)
	wantError(t, "Prenex", g, e, api.ErrSize)
	g, e = norm.Prenex(and(large, exists("R", 0, and())))
	wantError(t, "Prenex", g, e, api.ErrArg)
	g, e = norm.Prenex(and(large, exists("R", 0, bad)))
	wantError(t, "Prenex", g, e, api.ErrForm)
}

// emptied returns f with empty slices in place of nil ones, or nil ones in place of empty ones.
func emptied(f api.Formula, empty bool) api.Formula {
	g := api.Formula{Kind: f.Kind, Arity: f.Arity, Name: f.Name}
	if empty {
		g.Vars, g.Args, g.Kids = []string{}, []string{}, []api.Formula{}
	}
	g.Vars, g.Args = append(g.Vars, f.Vars...), append(g.Args, f.Args...)
	for _, kid := range f.Kids {
		g.Kids = append(g.Kids, emptied(kid, empty))
	}
	return g
}

// TestNilAndEmptySlices is rule R4, and R6: a second call has the same result.
func TestNilAndEmptySlices(t *testing.T) {
	m := newMaker(16)
	for range 500 {
		f := m.valid(allKinds(), api.MaxCost)
		nils, empties := emptied(f, false), emptied(f, true)
		for _, c := range changes() {
			g, e1 := c.do(nils)
			h, e2 := c.do(empties)
			again, e3 := c.do(f)
			if e1 != e2 || e1 != e3 || !formula.Same(g, h) || !formula.Same(g, again) {
				t.Errorf("%s(%s) is %s, error %d, and then %s, error %d, and %s, error %d", c.name, write(f), write(g), e1, write(h), e2, write(again), e3)
			}
		}
	}
	f := rel("Q", "")
	for _, d := range []api.Def{{Name: "Q", Body: and()}, {Name: "Q", Vars: []string{}, Body: emptied(and(), true)}} {
		g, e := norm.Replace(f, d)
		wantText(t, "Replace of Q", g, e, "true")
	}
}

// roomy returns a copy of f whose slices have room behind their ends, filled with marks.
func roomy(f api.Formula) api.Formula {
	f.Vars = append(append([]string{}, f.Vars...), "mark")[:len(f.Vars)]
	f.Args = append(append([]string{}, f.Args...), "mark")[:len(f.Args)]
	kids := []api.Formula{}
	for _, kid := range f.Kids {
		kids = append(kids, roomy(kid))
	}
	f.Kids = append(kids, api.Formula{Name: "mark"})[:len(f.Kids)]
	return f
}

// overwritten reports whether something was written behind the end of a slice of roomy.
func overwritten(f api.Formula) bool {
	vars, args, kids := len(f.Vars), len(f.Args), len(f.Kids)
	if f.Vars[:vars+1][vars] != "mark" || f.Args[:args+1][args] != "mark" || f.Kids[:kids+1][kids].Name != "mark" {
		return true
	}
	return slices.ContainsFunc(f.Kids, overwritten)
}

// scribble overwrites all memory of f, and what is behind the ends of its slices.
func scribble(f api.Formula) {
	for _, l := range [][]string{f.Vars[:cap(f.Vars)], f.Args[:cap(f.Args)]} {
		for i := range l {
			l[i] = "scribbled"
		}
	}
	for _, kid := range f.Kids {
		scribble(kid)
	}
	for i := range f.Kids[:cap(f.Kids)] {
		f.Kids[:cap(f.Kids)][i] = api.Formula{Name: "scribbled"}
	}
}

// TestArgumentsStay is rule R5: the functions change no argument, and their results share no memory with them.
func TestArgumentsStay(t *testing.T) {
	m := newMaker(17)
	for range 300 {
		kept := m.valid(allKinds(), api.MaxCost)
		f := roomy(kept)
		for _, c := range changes() {
			g, e := c.do(f)
			if e != api.OK {
				continue
			}
			want := deepCopy(g)
			scribble(g)
			if !formula.Same(f, kept) || overwritten(f) {
				t.Errorf("%s, or writing to its result, changes %s to %v", c.name, write(kept), f)
			}
			g, _ = c.do(f)
			if !formula.Same(g, want) {
				t.Errorf("%s(%s) is %v the second time", c.name, write(kept), g)
			}
			scribbled := deepCopy(f)
			g, _ = c.do(scribbled)
			scribble(scribbled)
			if !formula.Same(g, want) {
				t.Errorf("the result of %s(%s) changes with its argument", c.name, write(kept))
			}
		}
		norm.First(f)
		norm.Rank(f)
		norm.Width(f)
		if !formula.Same(f, kept) || overwritten(f) {
			t.Errorf("the calls change %s to %v", write(kept), f)
		}
	}
}

// TestDefinitionsStay is rule R5 for the second argument of Replace.
func TestDefinitionsStay(t *testing.T) {
	m := newMaker(18)
	for range 300 {
		f, body := m.valid(allKinds(), api.MaxCost), m.valid(allKinds(), api.MaxCost)
		body = closed(api.Def{Vars: names("x y"), Body: body})
		f = and(rel("D", "x z"), f, rel("D", "y y"))
		d := api.Def{Name: "D", Vars: append(names("x y"), "mark")[:2], Body: roomy(body)}
		g, e := norm.Replace(f, d)
		if e != api.OK {
			continue
		}
		want := deepCopy(g)
		scribble(g)
		if !formula.Same(d.Body, body) || overwritten(d.Body) || !slices.Equal(d.Vars[:3], names("x y mark")) {
			t.Errorf("Replace, or writing to its result, changes the definition %s", write(body))
		}
		g, _ = norm.Replace(f, d)
		scribble(d.Body)
		d.Vars[0], d.Vars[1] = "scribbled", "scribbled"
		if !formula.Same(g, want) {
			t.Errorf("the result of Replace changes with the definition %s", write(body))
		}
	}
}

// lists returns where the slices of f are.
func lists(f *api.Formula) (strings []*[]string, kids []*[]api.Formula) {
	strings, kids = append(strings, &f.Vars, &f.Args), append(kids, &f.Kids)
	for i := range f.Kids {
		a, b := lists(&f.Kids[i])
		strings, kids = append(strings, a...), append(kids, b...)
	}
	return strings, kids
}

// TestResultsShareNothing is rule R5 within one result: whatever is written to one slice of it, or behind its end, no other one changes.
func TestResultsShareNothing(t *testing.T) {
	m := newMaker(19)
	texts := []string{
		"and(P(x), P(x), all(y: P(y)), P(x))",
		"lfp(R x: and(E(x z), E(z x)))(y)",
		"some(x: some(y: some(z: and(E(x y), E(y z)))))",
		"and(some(a b c d e f g: T(a b c d e f g)), some(a b c d e f g: T(a b c d e f g)), some(a b c d e f g: T(a b c d e f g)))",
		"or(and(P(x), Q()), or(P(y), Q()), or(or(E(x y))))",
	}
	var formulas []api.Formula
	for _, text := range texts {
		formulas = append(formulas, parse(t, text))
	}
	for range 200 {
		formulas = append(formulas, m.valid(allKinds(), api.MaxCost))
	}
	for _, f := range formulas {
		for _, c := range changes() {
			g, e := c.do(f)
			if e != api.OK {
				continue
			}
			want := deepCopy(g)
			strings, kids := lists(&g)
			for i, l := range strings {
				kept := slices.Clone(*l)
				whole := (*l)[:cap(*l)]
				for j := range whole {
					whole[j] = "scribbled"
				}
				*l = kept
				if !formula.Same(g, want) {
					t.Fatalf("list %d of names of %s(%s) shares memory with another one", i, c.name, write(f))
				}
			}
			// Lists within others come first, so that it is still known where they are.
			for i, l := range slices.Backward(kids) {
				kept := slices.Clone(*l)
				whole := (*l)[:cap(*l)]
				for j := range whole {
					whole[j] = api.Formula{Name: "scribbled"}
				}
				*l = kept
				if !formula.Same(g, want) {
					t.Fatalf("list %d of kids of %s(%s) shares memory with another one", i, c.name, write(f))
				}
			}
		}
	}
}
