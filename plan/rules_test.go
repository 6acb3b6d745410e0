package plan_test

import (
	"math"
	"slices"
	"testing"

	"paraphrast/api"
	"paraphrast/formula"
	"paraphrast/plan"
	"paraphrast/shape"
)

// odd lists plans of all sorts, few of which are valid.
func odd() []api.Plan {
	var l []api.Plan
	for _, kind := range []int{math.MinInt, -1, 0, 1, 2, 3, 4, 5, 6, 7, 8, math.MaxInt} {
		for _, n := range []int{math.MinInt, -1, 0, 1, 12, 13, math.MaxInt} {
			for _, cols := range [][]int{nil, {0}, {math.MaxInt}, {math.MinInt, 0}, make([]int, 1<<20)} {
				for _, kids := range [][]api.Plan{nil, {{}}, {all(1)}, {all(12), all(12)}, make([]api.Plan, 1<<16)} {
					l = append(l,
						api.Plan{Kind: kind, Width: n, Name: "R", Cols: cols, Kids: kids},
						api.Plan{Kind: kind, Width: n, Cols: cols, Kids: kids},
						api.Plan{Kind: kind, I: n, Kids: kids},
						api.Plan{Kind: kind, J: n, Cols: cols, Kids: kids})
				}
			}
		}
	}
	endless := union(all(1), all(1))
	endless.Kids[0], endless.Kids[1] = endless, endless
	deep := same(0, 0, all(1))
	deep.Kids[0] = deep
	wide := join(all(0), all(0))
	wide.Kids[1] = wide
	return append(l, endless, deep, wide, chain(1000, all(1)), leaves(2001, all(1)), rel(string(make([]byte, 1<<20)), 1))
}

// TestEveryCallReturns is rules R1 and R3, and ErrForm.
func TestEveryCallReturns(t *testing.T) {
	s := structure(t, "2; R/1 0")
	valid := 0
	for _, p := range odd() {
		l, e1 := plan.Run(p, s)
		f, e2 := plan.Back(p)
		q, e3 := plan.Better(p)
		if plan.Valid(p) {
			valid++
			if plan.Width(p) < 0 || plan.Size(p) < 1 || e1 != api.OK && len(l) > 0 || e2 != api.OK || e3 != api.OK {
				t.Errorf("%s is valid, but its width is %d, its size %d, and the errors are %d, %d and %d", show(p), plan.Width(p), plan.Size(p), e1, e2, e3)
			}
			continue
		}
		if plan.Width(p) != -1 || plan.Size(p) != 0 {
			t.Errorf("a plan of kind %d is not valid, but has the width %d and the size %d", p.Kind, plan.Width(p), plan.Size(p))
		}
		wantError(t, "Run", len(l) == 0, e1, api.ErrForm)
		wantError(t, "Back", zeroFormula(f), e2, api.ErrForm)
		wantError(t, "Better", zeroPlan(q), e3, api.ErrForm)
	}
	if valid < 30 {
		t.Errorf("only %d of the plans are valid", valid)
	}
	oddFormulas(t)
}

func oddFormulas(t *testing.T) {
	endless := api.Formula{Kind: api.FAnd, Kids: []api.Formula{{Kind: api.FAnd}}}
	endless.Kids[0] = endless
	wantFromError(t, endless, nil, api.ErrForm)
	many := api.Formula{Kind: api.FAnd, Kids: make([]api.Formula, 1<<20)}
	wantFromError(t, many, nil, api.ErrForm)
	wantFromError(t, api.Formula{Kind: api.FAnd}, make([]string, 1<<20), api.ErrArg)
	wantFromError(t, api.Formula{Kind: api.FAnd}, numbered("x", 1<<16), api.ErrArg)
}

// TestFirstError is rule R2: calls with all selections of errors return the first one.
func TestFirstError(t *testing.T) {
	for mistakes := range 1 << 4 {
		made := func(i int) bool { return mistakes>>i&1 == 1 }
		p, s, want := join(rel("P", 1), all(1)), structure(t, "8; P/1 3"), api.OK
		if made(3) {
			p, want = union(p, project(all(5), 0, 0)), api.ErrSize
		}
		if made(2) {
			p, want = minus(p, rel("E", 2)), api.ErrName
		}
		if made(1) {
			s, want = api.Structure{Size: 8, Rels: append(s.Rels, s.Rels[0])}, api.ErrForm
		}
		if made(0) {
			p, want = union(p, all(1)), api.ErrForm
		}
		l, e := plan.Run(p, s)
		wantError(t, "Run", want == api.OK || len(l) == 0, e, want)
	}
	for mistakes := range 1 << 5 {
		made := func(i int) bool { return mistakes>>i&1 == 1 }
		f, vars, want := parse(t, "some(x y: E(x y))"), numbered("z", 10), api.OK
		if made(4) {
			f, want = api.Formula{Kind: api.FOr, Kids: repeat(200, f)}, api.ErrSize
		}
		if made(3) {
			f, want = parse(t, "some(x y z: E(x y))"), api.ErrSize
		}
		if made(2) {
			f, want = api.Formula{Kind: api.FAnd, Kids: []api.Formula{f, parse(t, "tc(x y: E(x y))(z0 z0)")}}, api.ErrArg
		}
		if made(1) {
			vars, want = append(vars, "z0"), api.ErrArg
		}
		if made(0) {
			f, want = api.Formula{Kind: api.FNot, Kids: []api.Formula{f, f}}, api.ErrForm
		}
		p, e := plan.From(f, vars)
		wantError(t, "From", want == api.OK || zeroPlan(p), e, want)
	}
}

// emptied returns p with empty slices in place of nil ones, or nil ones in place of empty ones.
func emptied(p api.Plan, empty bool) api.Plan {
	q := p
	q.Cols, q.Kids = nil, nil
	if empty {
		q.Cols, q.Kids = []int{}, []api.Plan{}
	}
	q.Cols = append(q.Cols, p.Cols...)
	for _, kid := range p.Kids {
		q.Kids = append(q.Kids, emptied(kid, empty))
	}
	return q
}

// TestNilAndEmptySlices is rule R4, and R6: a second call has the same result.
func TestNilAndEmptySlices(t *testing.T) {
	m := newMaker(12)
	for _, p := range append(m.plans(300), union(project(all(1)), project(all(1)))) {
		s := m.structure(2)
		nils, empties := emptied(p, false), emptied(p, true)
		if p.Kind == api.PJoin {
			nils, empties = union(nils, empties), union(empties, nils)
		}
		wantValid(t, empties, true)
		a, e1 := plan.Run(nils, s)
		b, e2 := plan.Run(empties, s)
		c, e3 := plan.Run(nils, s)
		if e1 != e2 || e1 != e3 || !equalTuples(a, b) || !equalTuples(a, c) {
			t.Errorf("Run(%s) is %v, error %d, then %v, error %d, and %v, error %d", show(p), a, e1, b, e2, c, e3)
		}
		f, e1 := plan.Back(nils)
		g, e2 := plan.Back(empties)
		h, e3 := plan.Back(nils)
		if e1 != e2 || e1 != e3 || !formula.Same(f, g) || !formula.Same(f, h) {
			t.Errorf("Back(%s) is %s, error %d, then %s, error %d, and %s, error %d", show(p), write(f), e1, write(g), e2, write(h), e3)
		}
		q, e1 := plan.Better(nils)
		r, e2 := plan.Better(empties)
		u, e3 := plan.Better(nils)
		if e1 != e2 || e1 != e3 || !equal(q, r) || !equal(q, u) {
			t.Errorf("Better(%s) is %s, error %d, then %s, error %d, and %s, error %d", show(p), show(q), e1, show(r), e2, show(u), e3)
		}
	}
	f := api.Formula{Kind: api.FAnd, Vars: []string{}, Args: []string{}, Kids: []api.Formula{}}
	for _, vars := range [][]string{nil, {}} {
		wantRun(t, from(t, f, vars), api.Structure{Size: 1, Rels: []api.Rel{}}, []int{})
	}
}

// TestFromAgain is rule R6 for From.
func TestFromAgain(t *testing.T) {
	m := newMaker(13)
	for range 300 {
		f := m.formula(5, "x y z")
		p, e1 := plan.From(f, names("x y z"))
		q, e2 := plan.From(f, names("x y z"))
		if e1 != e2 || !equal(p, q) {
			t.Errorf("From(%s) is %s, error %d, and then %s, error %d", write(f), show(p), e1, show(q), e2)
		}
	}
}

// roomy returns a copy of p whose slices have room behind their ends, filled with marks.
func roomy(p api.Plan) api.Plan {
	p.Cols = append(append([]int{}, p.Cols...), 77)[:len(p.Cols)]
	kids := []api.Plan{}
	for _, kid := range p.Kids {
		kids = append(kids, roomy(kid))
	}
	p.Kids = append(kids, api.Plan{Name: "mark"})[:len(p.Kids)]
	return p
}

// overwritten reports whether something was written behind the end of a slice of roomy.
func overwritten(p api.Plan) bool {
	cols, kids := len(p.Cols), len(p.Kids)
	return p.Cols[:cols+1][cols] != 77 || p.Kids[:kids+1][kids].Name != "mark" || slices.ContainsFunc(p.Kids, overwritten)
}

// scribble overwrites all memory of p, and what is behind the ends of its slices.
func scribble(p api.Plan) {
	for i := range p.Cols[:cap(p.Cols)] {
		p.Cols[:cap(p.Cols)][i] = 99
	}
	for _, kid := range p.Kids {
		scribble(kid)
	}
	for i := range p.Kids[:cap(p.Kids)] {
		p.Kids[:cap(p.Kids)][i] = api.Plan{Name: "scribbled"}
	}
}

func scribbleTuples(l [][]int) {
	for _, t := range l {
		for i := range t[:cap(t)] {
			t[:cap(t)][i] = 99
		}
	}
	for i := range l[:cap(l)] {
		l[:cap(l)][i] = nil
	}
}

func scribbleFormula(f api.Formula) {
	for _, l := range [][]string{f.Vars[:cap(f.Vars)], f.Args[:cap(f.Args)]} {
		for i := range l {
			l[i] = "scribbled"
		}
	}
	for _, kid := range f.Kids {
		scribbleFormula(kid)
	}
	for i := range f.Kids[:cap(f.Kids)] {
		f.Kids[:cap(f.Kids)][i] = api.Formula{Name: "scribbled"}
	}
}

// TestArgumentsStay is rule R5: no function changes its arguments, and a result shares no memory with them.
func TestArgumentsStay(t *testing.T) {
	m := newMaker(14)
	for _, kept := range m.plans(300) {
		p := roomy(kept)
		s := m.structure(2)
		unchanged := func(what string) {
			if !equal(p, kept) || overwritten(p) {
				t.Fatalf("%s, or writing to its result, changes %s to %s", what, show(kept), show(p))
			}
		}
		text, _ := shape.Text(s)
		l, _ := plan.Run(p, s)
		scribbleTuples(l)
		unchanged("Run")
		if after, _ := shape.Text(s); after != text {
			t.Fatalf("Run of %s, or writing to its result, changes %s to %s", show(kept), text, after)
		}
		f, _ := plan.Back(p)
		scribbleFormula(f)
		unchanged("Back")
		q, _ := plan.Better(p)
		scribble(q)
		unchanged("Better")
		plan.Valid(p)
		plan.Width(p)
		plan.Size(p)
		unchanged("Valid, Width or Size")

		argument := clone(p)
		q, _ = plan.Better(argument)
		f, _ = plan.Back(argument)
		scribble(argument)
		again, _ := plan.Back(p)
		if wanted, _ := plan.Better(p); !equal(q, wanted) || !formula.Same(f, again) {
			t.Errorf("the results of Better or Back of %s change with their argument", show(p))
		}
	}
}

// TestStructuresStay is that a result of Run is not the memory of the structure.
func TestStructuresStay(t *testing.T) {
	s := structure(t, "3; E/2 0,1 1,2; Q/0 ()")
	for _, p := range []api.Plan{rel("E", 2), rel("Q", 0), union(rel("E", 2), rel("E", 2)), minus(rel("E", 2), same(0, 1, all(2)))} {
		l := run(t, p, s)
		for _, r := range s.Rels {
			for i := range r.Tuples {
				r.Tuples[i] = append([]int{}, r.Tuples[i]...)
			}
		}
		scribbleTuples(l)
		if !shape.Valid(s) {
			t.Errorf("writing to the result of Run of %s changes the structure", show(p))
		}
		s = structure(t, "3; E/2 0,1 1,2; Q/0 ()")
	}
}

// TestFromArgumentsStay is rule R5 for From.
func TestFromArgumentsStay(t *testing.T) {
	m := newMaker(15)
	for range 300 {
		f := m.formula(5, "x y z")
		text := write(f)
		vars := append(names("x y z u"), "mark")[:4]
		p, e := plan.From(f, vars)
		if e != api.OK {
			continue
		}
		want := clone(p)
		scribble(p)
		if write(f) != text || !slices.Equal(vars[:5], names("x y z u mark")) {
			t.Errorf("From of %s, or writing to its result, changes its arguments to %s and %q", text, write(f), vars)
		}
		p, _ = plan.From(f, vars)
		for i := range vars {
			vars[i] = "scribbled"
		}
		scribbleFormula(f)
		if !equal(p, want) {
			t.Errorf("the plan of %s is %s, and then %s", text, show(want), show(p))
		}
	}
}

// planLists collects where the lists in p are, those around others first.
func planLists(p *api.Plan, cols *[]*[]int, kids *[]*[]api.Plan) {
	*cols = append(*cols, &p.Cols)
	*kids = append(*kids, &p.Kids)
	for i := range p.Kids {
		planLists(&p.Kids[i], cols, kids)
	}
}

// wantOwnLists fails if two lists in a plan share memory.
func wantOwnLists(t *testing.T, p api.Plan) {
	t.Helper()
	want := clone(p)
	var cols []*[]int
	var kids []*[]api.Plan
	planLists(&p, &cols, &kids)
	for _, l := range cols {
		kept := slices.Clone(*l)
		for i := range (*l)[:cap(*l)] {
			(*l)[:cap(*l)][i] = 99
		}
		*l = kept
		if !equal(p, want) {
			t.Fatalf("a list of columns of %s shares memory with another one", show(want))
		}
	}
	// Lists within others come first, so that it is still known where they are.
	for _, l := range slices.Backward(kids) {
		kept := slices.Clone(*l)
		for i := range (*l)[:cap(*l)] {
			(*l)[:cap(*l)][i] = api.Plan{Name: "scribbled"}
		}
		*l = kept
		if !equal(p, want) {
			t.Fatalf("a list of kids of %s shares memory with another one", show(want))
		}
	}
}

// formulaLists does for a formula what planLists does for a plan.
func formulaLists(f *api.Formula, words *[]*[]string, kids *[]*[]api.Formula) {
	*words = append(*words, &f.Vars, &f.Args)
	*kids = append(*kids, &f.Kids)
	for i := range f.Kids {
		formulaLists(&f.Kids[i], words, kids)
	}
}

func cloneFormula(f api.Formula) api.Formula {
	f.Vars, f.Args = slices.Clone(f.Vars), slices.Clone(f.Args)
	var kids []api.Formula
	for _, kid := range f.Kids {
		kids = append(kids, cloneFormula(kid))
	}
	f.Kids = kids
	return f
}

// wantOwnFormulaLists fails if two lists in a formula share memory.
func wantOwnFormulaLists(t *testing.T, f api.Formula) {
	t.Helper()
	want := cloneFormula(f)
	var words []*[]string
	var kids []*[]api.Formula
	formulaLists(&f, &words, &kids)
	for _, l := range words {
		kept := slices.Clone(*l)
		for i := range (*l)[:cap(*l)] {
			(*l)[:cap(*l)][i] = "scribbled"
		}
		*l = kept
		if !formula.Same(f, want) {
			t.Fatalf("a list of variables of %s shares memory with another one", write(want))
		}
	}
	for _, l := range slices.Backward(kids) {
		kept := slices.Clone(*l)
		for i := range (*l)[:cap(*l)] {
			(*l)[:cap(*l)][i] = api.Formula{Name: "scribbled"}
		}
		*l = kept
		if !formula.Same(f, want) {
			t.Fatalf("a list of kids of %s shares memory with another one", write(want))
		}
	}
}

// TestListsAreSeparate is rule R5 within one result: no two of its lists share memory, even if those of the argument do.
func TestListsAreSeparate(t *testing.T) {
	m := newMaker(16)
	for _, p := range m.plans(300) {
		p = union(project(p, inOrder(width(p))...), minus(p, p))
		p = project(minus(project(p, inOrder(width(p))...), p), inOrder(width(p))...)
		q, _ := plan.Better(p)
		wantOwnLists(t, q)
		f, _ := plan.Back(p)
		wantOwnFormulaLists(t, f)
		l := run(t, p, m.structure(2))
		want := make([][]int, len(l))
		for i := range l {
			want[i] = slices.Clone(l[i])
		}
		for i := range l {
			kept := slices.Clone(l[i])
			scribbleTuples(l[i : i+1 : i+1])
			l[i] = kept
			if !equalTuples(l, want) {
				t.Fatalf("tuple %d of Run of %s shares memory with another one", i, show(p))
			}
		}
		g := m.formula(5, "x y z")
		g = api.Formula{Kind: api.FAnd, Kids: repeat(3, g)}
		q, _ = plan.From(g, names("x y z"))
		wantOwnLists(t, q)
	}
}
