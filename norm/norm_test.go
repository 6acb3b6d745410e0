package norm_test

import (
	"slices"
	"testing"

	"paraphrast/api"
	"paraphrast/formula"
	"paraphrast/norm"
)

// TestMeasures is about First, Rank and Width.
func TestMeasures(t *testing.T) {
	for _, c := range []struct {
		text        string
		first       bool
		rank, width int
	}{
		{"true", true, 0, 0},
		{"Q()", true, 0, 0},
		{"P(P)", true, 0, 1},
		{"E(x x)", true, 0, 1},
		{"x < y", true, 0, 2},
		{"and(x = y, E(z x), not(P(x)))", true, 0, 3},
		{"some(x: true)", true, 1, 1},
		{"some(x y: P(z))", true, 2, 3},
		{"all(x: some(x: all(x: P(x))))", true, 3, 1},
		{"or(some(x: P(x)), all(x y: E(x y)), not(P(z)))", true, 2, 3},
		{"some(x: or(all(y: E(x y)), all(u v w: T(u v w))))", true, 4, 5},
		{"lfp(R x y: R(y x))(x x)", false, 2, 2},
		{"lfp(R x: some(y: R(y)))(z)", false, 2, 3},
		{"pfp(R x: not(R(x)))(a)", false, 1, 2},
		{"tc(x y: some(z: E(x z)))(a b)", false, 3, 5},
		{"tc(a b c d: true)(a b c d)", false, 4, 4},
		{"exists(R 2: true)", false, 0, 0},
		{"exists(R 1: some(x: R(x)))", false, 1, 1},
		{"not(some(x: and(E(x y), not(P(x)))))", true, 1, 2},
		{"all(x: lfp(R x: R(x))(x))", false, 2, 1},
		{"all(x: or(P(x), pfp(R x: R(x))(x)))", false, 2, 1},
		{"some(x: and(P(x), not(tc(x y: true)(x x))))", false, 3, 2},
		{"and(true, not(exists(R 0: R())))", false, 0, 0},
		{"and(exists(R 0: R()), true)", false, 0, 0},
		{"some(a b c d e f g h i j k l: some(m n o p q r s t u v w x: a = x))", true, 24, 24},
	} {
		f := parse(t, c.text)
		if is := norm.First(f); is != c.first {
			t.Errorf("First(%s) is %v", c.text, is)
		}
		if n, e := norm.Rank(f); n != c.rank || e != api.OK {
			t.Errorf("Rank(%s) is %d, error %d, instead of %d", c.text, n, e, c.rank)
		}
		if n, e := norm.Width(f); n != c.width || e != api.OK {
			t.Errorf("Width(%s) is %d, error %d, instead of %d", c.text, n, e, c.width)
		}
	}
}

// TestMeasuresByDefinition compares First, Rank and Width with what their sections say.
func TestMeasuresByDefinition(t *testing.T) {
	m := newMaker(1)
	for range 2000 {
		f := m.valid(allKinds(), api.MaxCost)
		rank, vars := 0, formula.Free(f)
		visit(f, nil, func(g api.Formula, around []api.Formula) {
			vars = append(vars, g.Vars...)
			n := len(g.Vars)
			for _, h := range around {
				n += len(h.Vars)
			}
			rank = max(rank, n)
		})
		slices.Sort(vars)
		width := len(slices.Compact(vars))
		if n, e := norm.Rank(f); n != rank || e != api.OK {
			t.Errorf("Rank(%s) is %d, error %d, instead of %d", write(f), n, e, rank)
		}
		if n, e := norm.Width(f); n != width || e != api.OK {
			t.Errorf("Width(%s) is %d, error %d, instead of %d", write(f), n, e, width)
		}
		if is := norm.First(f); is == has(f, api.FLfp, api.FPfp, api.FTc, api.FSecond) {
			t.Errorf("First(%s) is %v", write(f), is)
		}
	}
}

// TestRankZero is promise P4.4 for formulas of rank 0. (By its definition, FSecond has no rank of its own.)
func TestRankZero(t *testing.T) {
	m := newMaker(2)
	for range 2000 {
		f := m.valid(allKinds(), api.MaxCost)
		n, e := norm.Rank(f)
		if combines := !has(f, api.FSome, api.FAll, api.FLfp, api.FPfp, api.FTc); combines != (n == 0) || e != api.OK {
			t.Errorf("Rank(%s) is %d, error %d", write(f), n, e)
		}
	}
}

func TestNnf(t *testing.T) {
	for text, want := range map[string]string{
		"true":                       "true",
		"not(true)":                  "false",
		"not(false)":                 "true",
		"not(not(true))":             "true",
		"P(x)":                       "P(x)",
		"not(P(x))":                  "not(P(x))",
		"not(x = y)":                 "not(x = y)",
		"not(x < y)":                 "not(x < y)",
		"not(not(P(x)))":             "P(x)",
		"not(not(not(P(x))))":        "not(P(x))",
		"not(not(not(not(P(x)))))":   "P(x)",
		"not(and(P(x)))":             "or(not(P(x)))",
		"not(or(P(x)))":              "and(not(P(x)))",
		"not(and(P(x), not(P(y))))":  "or(not(P(x)), P(y))",
		"not(or(P(x), and(P(y))))":   "and(not(P(x)), or(not(P(y))))",
		"not(some(x y: E(x y)))":     "all(x y: not(E(x y)))",
		"not(all(x y: not(E(y x))))": "some(x y: E(y x))",
		"and(not(not(Q())), or(not(not(not(Q())))))":                  "and(Q(), or(not(Q())))",
		"some(x: not(all(y: not(not(E(x y))))))":                      "some(x: some(y: not(E(x y))))",
		"not(lfp(R x: not(not(R(x))))(a))":                            "not(lfp(R x: R(x))(a))",
		"lfp(R x: not(and(not(R(x)), P(x))))(a)":                      "lfp(R x: or(R(x), not(P(x))))(a)",
		"not(not(lfp(R x: R(x))(a)))":                                 "lfp(R x: R(x))(a)",
		"not(pfp(R x: not(or(R(x), P(x))))(a))":                       "not(pfp(R x: and(not(R(x)), not(P(x))))(a))",
		"not(tc(x y: not(not(E(x y))))(a b))":                         "not(tc(x y: E(x y))(a b))",
		"not(exists(R 1: not(all(x: R(x)))))":                         "not(exists(R 1: some(x: not(R(x)))))",
		"not(and(exists(R 0: R()), not(exists(R 0: not(not(R()))))))": "or(not(exists(R 0: R())), exists(R 0: R()))",
		"not(some(x: and(E(x y), not(P(x)))))":                        "all(x: or(not(E(x y)), P(x)))",
	} {
		f, e := norm.Nnf(parse(t, text))
		wantText(t, "Nnf("+text+")", f, e, want)
	}
}

// rewritten applies one of the rules of Nnf to the outermost formula that it applies to; false if there is none.
func rewritten(f api.Formula) (api.Formula, bool) {
	if f.Kind == api.FNot {
		kid := f.Kids[0]
		var kids []api.Formula
		for _, k := range kid.Kids {
			kids = append(kids, not(k))
		}
		switch kid.Kind {
		case api.FNot:
			return kid.Kids[0], true
		case api.FAnd:
			return or(kids...), true
		case api.FOr:
			return and(kids...), true
		case api.FSome:
			return api.Formula{Kind: api.FAll, Vars: kid.Vars, Kids: kids}, true
		case api.FAll:
			return api.Formula{Kind: api.FSome, Vars: kid.Vars, Kids: kids}, true
		}
	}
	for i, kid := range f.Kids {
		if k, is := rewritten(kid); is {
			f.Kids = slices.Clone(f.Kids)
			f.Kids[i] = k
			return f, true
		}
	}
	return f, false
}

// TestNnfByItsRules is promises P4.1 and P4.3 for Nnf.
func TestNnfByItsRules(t *testing.T) {
	m := newMaker(3)
	structures := m.structures()
	for range 700 {
		f := m.valid(allKinds(), 3000)
		g, e := norm.Nnf(f)
		want, more := f, true
		for more {
			want, more = rewritten(want)
		}
		if e != api.OK || !formula.Same(g, want) {
			t.Errorf("Nnf(%s) is %s, error %d, instead of %s", write(f), write(g), e, write(want))
		}
		if h, e := norm.Nnf(g); e != api.OK || !formula.Same(g, h) {
			t.Errorf("Nnf(%s) is %s, error %d", write(g), write(h), e)
		}
		if a, e := norm.Rank(f); e != api.OK || !sameRank(g, a) {
			t.Errorf("Nnf(%s) is %s, which has another rank than %d", write(f), write(g), a)
		}
		wantMeaning(t, f, g, structures)
	}
}

func sameRank(f api.Formula, want int) bool {
	n, e := norm.Rank(f)
	return n == want && e == api.OK
}

// TestNnfSize is the limit of the size of what Nnf returns.
func TestNnfSize(t *testing.T) {
	f := not(and(repeat(1999, rel("Q", ""))...))
	g, e := norm.Nnf(f)
	if formula.Size(g) != 3999 || e != api.OK {
		t.Errorf("Nnf of a formula of size %d is one of size %d, error %d", formula.Size(f), formula.Size(g), e)
	}
	g, e = norm.Nnf(not(or(repeat(2000, rel("Q", ""))...)))
	wantError(t, "Nnf of a formula with 2000 atoms", g, e, api.ErrSize)
	// Only the result counts, not what is in between: here all negations vanish.
	f = not(and(repeat(1999, not(rel("Q", "")))...))
	g, e = norm.Nnf(f)
	if formula.Size(f) != 4000 || formula.Size(g) != 2000 || e != api.OK {
		t.Errorf("Nnf of a formula of size %d is one of size %d, error %d", formula.Size(f), formula.Size(g), e)
	}
	f = deep(59, rel("Q", ""))
	g, e = norm.Nnf(f)
	wantText(t, "Nnf of 59 negations", g, e, "not(Q())")
	f = deep(29, rel("Q", ""))
	for range 15 {
		f = not(bound(api.FAll, "x", f))
	}
	if g, e := norm.Nnf(f); formula.Depth(f) != 60 || formula.Depth(g) > 60 || e != api.OK {
		t.Errorf("Nnf of a formula of depth 60 is one of depth %d, error %d", formula.Depth(g), e)
	}
}
