package mean_test

import (
	"math"
	"slices"
	"testing"

	"paraphrast/api"
	"paraphrast/formula"
	"paraphrast/mean"
	"paraphrast/shape"
)

func TestErrors(t *testing.T) {
	s := structure(t, "3; E/2 0,1; P/1 2; Q/0")
	bad := api.Structure{Size: 3, Rels: []api.Rel{{Name: "E", Arity: 1, Tuples: [][]int{{3}}}}}
	for _, f := range []api.Formula{{}, {Kind: -1}, {Kind: api.FKinds}, not(api.Formula{}), some("x x", and()), and(rel("E", "x"), rel("E", "x y")), defined(api.FLfp, "R", "x", not(rel("R", "x")), "x")} {
		wantError(t, f, s, names("x y"), []int{0, 0}, api.ErrForm)
	}
	for _, q := range []api.Structure{{}, {Size: -1}, {Size: 65}, bad, with(s, "E", 2, nil), with(s, "and", 1, nil), with(s, "R", 1, [][]int{{1}, {0}}), with(s, "R", 1, [][]int{{1}, {1}})} {
		wantError(t, and(), q, nil, nil, api.ErrForm)
	}
	for _, text := range []string{"R(x)", "E(x)", "E(x y x)", "P()", "P(x y)", "Q(x)", "some(x: R(x))", "or(true, R())", "and(exists(R 0: R()), R())", "lfp(S x: and(S(x), R(x)))(x)", "pfp(S x: R(x))(x)", "tc(u v: R())(x y)"} {
		wantError(t, parse(t, text), s, names("x y"), []int{0, 0}, api.ErrName)
	}
	for text, vars := range map[string]string{
		"E(x y)":                       "x",
		"P(x)":                         "",
		"x = y":                        "y z",
		"x < x":                        "X",
		"some(x: E(x y))":              "x",
		"lfp(R x: R(x))(y)":            "x",
		"lfp(R x: and(R(x), P(z)))(x)": "x",
		"tc(x y: E(x y))(a b)":         "x y a",
		"exists(R 1: R(x))":            "R",
		"and(P(x), some(x: P(x)))":     "y",
	} {
		wantError(t, parse(t, text), s, names(vars), make([]int, len(names(vars))), api.ErrArg)
	}
	f := rel("P", "x")
	for _, vars := range []string{"x x", "x y y", "y x x", "x y x"} {
		wantError(t, f, s, names(vars), make([]int, len(names(vars))), api.ErrArg)
	}
	for _, at := range [][]int{nil, {}, {0, 0}, {-1}, {3}, {math.MaxInt}, {math.MinInt}} {
		if is, e := mean.Holds(f, s, names("x"), at); is || e != api.ErrArg {
			t.Errorf("Holds for the values %v is %v, error %d", at, is, e)
		}
	}
	for _, at := range [][]int{{0}, {2, 3}, {2, -1}, {2, 1, 0}} {
		if is, e := mean.Holds(f, s, names("x y"), at); is || e != api.ErrArg {
			t.Errorf("Holds for the values %v is %v, error %d", at, is, e)
		}
	}
	wantHolds(t, f, s, "x", []int{2}, true)
	wantHolds(t, f, s, "y x", []int{0, 2}, true)
	wantHolds(t, f, s, "y x", []int{2, 0}, false)
	// The chapter does not say that vars are names.
	for _, v := range []string{"", "and", "1", "a variable", "\xff"} {
		if is, e := mean.Holds(f, s, []string{v, "x"}, []int{0, 2}); !is || e != api.OK {
			t.Errorf("with a variable %q, Holds is %v, error %d", v, is, e)
		}
		if l, e := mean.Query(f, s, []string{v, "x"}); writeTuples(l) != "0,2 1,2 2,2" || e != api.OK {
			t.Errorf("with a variable %q, Query is %v, error %d", v, l, e)
		}
	}
}

// TestFirstError is rule R2: calls with all selections of errors return the first one.
func TestFirstError(t *testing.T) {
	for mistakes := range 1 << 5 {
		made := func(i int) bool { return mistakes>>i&1 == 1 }
		f, s := some("y", rel("P", "x")), structure(t, "17; P/1 16")
		vars, at, want := names("x"), []int{16}, api.OK
		if made(4) {
			f, want = and(f, exists("R", 1, and())), api.ErrSize
		}
		if made(3) {
			vars, at, want = names("y"), []int{17}, api.ErrArg
		}
		if made(2) {
			f, want = or(f, rel("P", "")), api.ErrName
			f.Kids[0] = renamed(f.Kids[0], "P", "N")
		}
		if made(1) {
			s.Rels[0].Tuples, want = [][]int{{17}}, api.ErrForm
		}
		if made(0) {
			f.Arity, want = 1, api.ErrForm
		}
		if want == api.OK {
			wantHolds(t, f, s, "x", at, true)
			continue
		}
		wantError(t, f, s, vars, at, want)
	}
	// Too many tuples of the result are the last error.
	s, many := structure(t, "64; P/1 1"), names("x y z")
	for _, c := range []struct {
		f    api.Formula
		s    api.Structure
		vars []string
		want api.Errno
	}{
		{api.Formula{}, s, many, api.ErrForm},
		{and(), api.Structure{}, many, api.ErrForm},
		{rel("N", "x"), s, many, api.ErrName},
		{rel("P", "u"), s, many, api.ErrArg},
		{rel("P", "x"), s, names("x y z x"), api.ErrArg},
		{rel("P", "x"), s, many, api.ErrSize},
		{rel("P", "x"), s, names("x y"), api.OK},
	} {
		if l, e := mean.Query(c.f, c.s, c.vars); e != c.want || e != api.OK && len(l) > 0 {
			t.Errorf("Query(%s, %v, %v) has %d tuples, error %d", write(c.f), c.s, c.vars, len(l), e)
		}
	}
}

// TestEveryCallReturns is rule R1, and rule R3 for arguments that are not valid.
func TestEveryCallReturns(t *testing.T) {
	var formulas []api.Formula
	for _, kind := range []int{math.MinInt, -1, 0, 1, 2, 3, 4, 5, 6, 7, 8, 9, 10, 11, 12, math.MaxInt} {
		for _, list := range [][]string{nil, {""}, {"x"}, {"x", "y"}, {"x", "x"}, make([]string, 30)} {
			for _, kids := range [][]api.Formula{nil, {{}}, {{Kind: api.FAnd}}, make([]api.Formula, 3)} {
				for _, arity := range []int{math.MinInt, 0, 1, 13, math.MaxInt} {
					formulas = append(formulas, api.Formula{Kind: kind, Arity: arity, Name: "R", Vars: list, Args: list, Kids: kids}, api.Formula{Kind: kind, Arity: arity, Args: list, Kids: kids}, api.Formula{Kind: kind, Arity: arity, Vars: list, Kids: kids})
				}
			}
		}
	}
	endless := and(and())
	endless.Kids[0] = endless
	formulas = append(formulas, endless)
	structures := []api.Structure{{}, {Size: 1}, {Size: math.MaxInt}, {Size: math.MinInt}, {Size: 64}, {Size: 2, Rels: make([]api.Rel, 3)}, {Size: 2, Rels: []api.Rel{{Name: "R", Arity: 2, Tuples: [][]int{nil}}}}, {Size: 2, Rels: []api.Rel{{Name: "R", Tuples: [][]int{nil}}}}, {Size: 3, Rels: []api.Rel{{Name: "R", Arity: math.MaxInt}}}}
	for _, f := range formulas {
		for _, n := range []int{math.MinInt, 0, 1, 64, math.MaxInt} {
			c, e := mean.Cost(f, n)
			if e == api.OK && (c < 1 || c > api.MaxCost) || e != api.OK && c != 0 || formula.Valid(f) == (e == api.ErrForm) {
				t.Errorf("Cost(%v, %d) is %d, error %d", f, n, c, e)
			}
		}
		for _, s := range structures {
			for _, vars := range [][]string{nil, {"x"}, {"x", "y"}, {"x", "x"}} {
				is, e1 := mean.Holds(f, s, vars, []int{0, 0}[:len(vars)])
				l, e2 := mean.Query(f, s, vars)
				form := !formula.Valid(f) || !shape.Valid(s)
				if form != (e1 == api.ErrForm) || form != (e2 == api.ErrForm) || e1 != api.OK && is || e2 != api.OK && len(l) > 0 {
					t.Errorf("for %v, %v and %q, Holds is %v, error %d, and Query %v, error %d", f, s, vars, is, e1, l, e2)
				}
			}
		}
	}
	many := names(numbered("v", 100000))
	for _, s := range structures {
		mean.Holds(and(), s, many, make([]int, len(many)))
		mean.Query(and(), s, many)
	}
}

// copyOf returns a copy of f whose slices have room behind their ends, filled with marks.
func copyOf(f api.Formula) api.Formula {
	f.Vars = append(append([]string{}, f.Vars...), "mark")[:len(f.Vars)]
	f.Args = append(append([]string{}, f.Args...), "mark")[:len(f.Args)]
	kids := []api.Formula{}
	for _, kid := range f.Kids {
		kids = append(kids, copyOf(kid))
	}
	f.Kids = append(kids, api.Formula{Name: "mark"})[:len(f.Kids)]
	return f
}

// marked reports whether all marks are still there.
func marked(f api.Formula) bool {
	if f.Vars[:len(f.Vars)+1][len(f.Vars)] != "mark" || f.Args[:len(f.Args)+1][len(f.Args)] != "mark" || f.Kids[:len(f.Kids)+1][len(f.Kids)].Name != "mark" {
		return false
	}
	return !slices.ContainsFunc(f.Kids, func(kid api.Formula) bool { return !marked(kid) })
}

// copyOfStructure returns a copy of s with room behind the ends of its slices.
func copyOfStructure(s api.Structure) api.Structure {
	rels := []api.Rel{}
	for _, r := range s.Rels {
		l := [][]int{}
		for _, tuple := range r.Tuples {
			l = append(l, append(slices.Clone(tuple), 77)[:len(tuple)])
		}
		r.Tuples = append(l, []int{77})[:len(l)]
		rels = append(rels, r)
	}
	s.Rels = append(rels, api.Rel{Name: "mark"})[:len(rels)]
	return s
}

// markedStructure reports whether all marks are still there.
func markedStructure(s api.Structure) bool {
	for _, r := range s.Rels {
		for _, tuple := range r.Tuples {
			if tuple[:len(tuple)+1][len(tuple)] != 77 {
				return false
			}
		}
		if behind := r.Tuples[:len(r.Tuples)+1][len(r.Tuples)]; !slices.Equal(behind, []int{77}) {
			return false
		}
	}
	return s.Rels[:len(s.Rels)+1][len(s.Rels)].Name == "mark"
}

// TestArgumentsStay is rule R5: a call changes nothing of its arguments, and its results share no memory with them nor with each other.
func TestArgumentsStay(t *testing.T) {
	m := newMaker(10)
	for range 300 {
		f, s := m.valid(2000), m.structure(1+m.Intn(3))
		g, q := copyOf(f), copyOfStructure(s)
		vars := append(names(m.vars(4, true)), "mark")[:4]
		at := append([]int{0, 0, s.Size - 1, 0}, 77)[:4]
		before := slices.Clone(vars)
		mean.Cost(g, s.Size)
		mean.Holds(g, q, vars, at)
		l, e := mean.Query(g, q, vars)
		text := writeTuples(l)
		for _, tuple := range l {
			for range 5 {
				tuple = append(tuple, 99)
			}
		}
		if writeTuples(l) != text {
			t.Errorf("the tuples of the query of %s share memory", write(f))
		}
		for _, tuple := range l {
			for i := range tuple {
				tuple[i] = 99
			}
		}
		text1, _ := shape.Text(s)
		text2, _ := shape.Text(q)
		if e != api.OK || !formula.Same(f, g) || !marked(g) || text1 != text2 || !markedStructure(q) {
			t.Errorf("the calls for %s and %v change them to %s and %v, error %d", write(f), s, write(g), q, e)
		}
		if !slices.Equal(vars, before) || vars[:5][4] != "mark" || !slices.Equal(at[:5], []int{0, 0, s.Size - 1, 0, 77}) {
			t.Errorf("the calls for %s change the variables to %v or their values to %v", write(f), vars, at)
		}
		again, _ := mean.Query(f, s, before)
		if writeTuples(again) != text {
			t.Errorf("the query of %s is %v the second time", write(f), again)
		}
	}
}

// TestResultsStay is rule R5 for a result whose arguments change afterwards.
func TestResultsStay(t *testing.T) {
	s, f, vars := structure(t, graph), parse(t, "and(E(x y), P(y))"), names("x y")
	l, _ := mean.Query(f, s, vars)
	for _, r := range s.Rels {
		for _, tuple := range r.Tuples {
			for i := range tuple {
				tuple[i] = 99
			}
		}
	}
	f.Kids[0].Args[0], vars[0] = "z", "z"
	if writeTuples(l) != "0,1" {
		t.Errorf("the result changes with the arguments to %v", l)
	}
}

// TestNilAndEmptySlices is rule R4.
func TestNilAndEmptySlices(t *testing.T) {
	none := []string{}
	empty := api.Formula{Kind: api.FAnd, Vars: none, Args: none, Kids: []api.Formula{{Kind: api.FRel, Name: "Q", Vars: none, Args: none, Kids: []api.Formula{}}}}
	for _, f := range []api.Formula{empty, and(rel("Q", ""))} {
		for _, l := range [][][]int{{nil}, {{}}} {
			s := api.Structure{Size: 2, Rels: []api.Rel{{Name: "Q", Tuples: l}}}
			for _, vars := range [][]string{nil, {}} {
				for _, at := range [][]int{nil, {}} {
					if is, e := mean.Holds(f, s, vars, at); !is || e != api.OK {
						t.Errorf("Holds(%v, %v, %v, %v) is %v, error %d", f, s, vars, at, is, e)
					}
				}
				if l, e := mean.Query(f, s, vars); writeTuples(l) != "()" || e != api.OK {
					t.Errorf("Query(%v, %v, %v) is %v, error %d", f, s, vars, l, e)
				}
			}
		}
		for _, l := range [][][]int{nil, {}} {
			s := api.Structure{Size: 2, Rels: []api.Rel{{Name: "Q", Tuples: l}}}
			wantHolds(t, f, s, "", nil, false)
			if l := query(t, f, s, "x"); len(l) > 0 {
				t.Errorf("an empty relation has the tuples %v", l)
			}
		}
		wantCost(t, f, 2, 2, api.OK)
	}
}

// TestSameCallsSameResults is rule R6, with calls that end with errors in between.
func TestSameCallsSameResults(t *testing.T) {
	m := newMaker(11)
	var results []string
	var calls []func() string
	for range 200 {
		f, s, vars := m.valid(2000), m.structure(1+m.Intn(3)), names(m.vars(4, true))
		calls = append(calls, func() string {
			l, _ := mean.Query(f, s, vars)
			return writeTuples(l)
		})
	}
	endless := parse(t, "pfp(R x: or(and(R(x), some(y: and(y < x, not(R(y))))), and(not(R(x)), all(y: or(not(y < x), R(y))))))(a)")
	for round := range 3 {
		for i, call := range calls {
			result := call()
			if round == 0 {
				results = append(results, result)
			} else if result != results[i] {
				t.Errorf("call %d has the result %s, and then %s", i, results[i], result)
			}
		}
		mean.Holds(endless, api.Structure{Size: 20}, names("a"), []int{0})
		slices.Reverse(calls)
		slices.Reverse(results)
	}
}
