package fix_test

import (
	"slices"
	"strings"
	"testing"

	"paraphrast/api"
	"paraphrast/fix"
	"paraphrast/formula"
	"paraphrast/norm"
)

// flat returns the results of Flat for a formula that must have them.
func flat(t *testing.T, f api.Formula) ([]api.Def, api.Formula) {
	t.Helper()
	defs, g, e := fix.Flat(f)
	if e != api.OK {
		t.Fatalf("Flat(%s) is error %d", write(f), e)
	}
	return defs, g
}

// wantFlat fails unless Flat makes of f a system and a formula as its section says. It returns how many times the meaning could be compared.
func wantFlat(t *testing.T, f api.Formula, structures ...api.Structure) int {
	t.Helper()
	defs, g := flat(t, f)
	what := write(g) + " with " + writeDefs(defs)
	if !norm.First(g) {
		t.Errorf("Flat(%s) is %s, which is not first-order", write(f), what)
		return 0
	}
	for _, v := range formula.Free(g) {
		if !slices.Contains(formula.Free(f), v) {
			t.Errorf("Flat(%s) is %s, in which %s is free", write(f), what, v)
		}
	}
	for _, d := range defs {
		if !norm.First(d.Body) || slices.ContainsFunc(formula.Symbols(f), func(x api.Symbol) bool { return x.Name == d.Name }) {
			t.Errorf("Flat(%s) is %s, where %s is not first-order, or the name of a relation of the structure", write(f), what, d.Name)
		}
	}
	compared := 0
	for _, s := range structures {
		if wantFlatMeaning(t, f, defs, g, s) {
			compared++
		}
	}
	return compared
}

// wantFlatMeaning fails unless g holds in s with the relations of a system where f holds in s. It returns whether this could be compared.
func wantFlatMeaning(t *testing.T, f api.Formula, defs []api.Def, g api.Formula, s api.Structure) bool {
	t.Helper()
	rels, e := fix.Solve(defs, s)
	if e != api.OK && e != api.ErrSize {
		t.Errorf("Solve(%s) for %s is error %d", writeDefs(defs), write(f), e)
	}
	if e != api.OK {
		return false
	}
	// With at most eight relations, the structure is valid.
	uses := formula.Symbols(g)
	s = with(s, rels)
	s.Rels = slices.DeleteFunc(s.Rels, func(r api.Rel) bool {
		return !slices.Contains(uses, api.Symbol{Name: r.Name, Arity: r.Arity}) && !slices.ContainsFunc(formula.Symbols(f), func(x api.Symbol) bool { return x.Name == r.Name })
	})
	if len(s.Rels) > api.MaxRels {
		return false
	}
	vars := formula.Free(f)
	want, ok1 := query(t, f, s, vars)
	l, ok2 := query(t, g, s, vars)
	if ok1 && ok2 && !equalTuples(l, want) {
		t.Errorf("in %v, %s holds for %v: %v, but %s with %s for %v", s, write(f), vars, want, write(g), writeDefs(defs), l)
	}
	return ok1 && ok2
}

func TestFlat(t *testing.T) {
	m := newMaker(6)
	var structures []api.Structure
	for range 4 {
		structures = append(structures, m.structure(1), m.structure(2), m.structure(3))
	}
	for _, text := range []string{
		"lfp(R x y: or(E(x y), some(z: and(E(x z), R(z y)))))(a b)",
		"lfp(R x: true)(a)",
		"lfp(R x: R(x))(x)",
		"lfp(R x: P(x))(x)",
		"some(x: lfp(R x: P(x))(x))",
		"and(P(x), lfp(R x: or(P(x), R(x)))(x), Q())",
		"or(lfp(R x: P(x))(a), lfp(R x y: E(y x))(a b), lfp(S x: Q())(b))",
		// Variables around a fixed point.
		"lfp(R x: or(E(p x), some(y: and(R(y), E(y x)))))(a)",
		"lfp(R x: or(E(p x), some(y: and(R(y), E(y x)))))(p)",
		"all(p: lfp(R x: or(E(p x), some(y: and(R(y), E(y x)))))(p))",
		"some(p: and(P(p), lfp(R x: or(x = p, some(y: and(R(y), E(y x)))))(q)))",
		"lfp(R x: or(x = q, some(p: and(R(p), E(p x)))))(p)",
		// One within the other.
		"lfp(R x: or(P(x), lfp(S y: or(E(x y), some(z: and(S(z), E(z y)))))(x)))(a)",
		"lfp(R x: or(P(x), lfp(S y: or(R(y), some(z: and(S(z), E(z y)))))(x)))(a)",
		"lfp(R x: or(P(x), some(u: lfp(S y: or(and(R(u), E(u y)), some(z: and(S(z), E(z y)))))(x))))(a)",
		"lfp(R x: or(E(p x), some(p: lfp(S y: or(R(y), E(y p)))(x))))(a)",
		"lfp(R x: or(E(p x), some(p: and(E(x p), lfp(S x: or(R(x), S(x)))(p)))))(a)",
		"lfp(R x: or(E(p x), lfp(S y: lfp(T z: or(R(z), and(S(z), E(x z))))(y))(x)))(a)",
		"lfp(R x: all(u: or(E(x u), lfp(S y: or(R(y), lfp(T z: or(R(u), E(q z)))(y)))(u))))(a)",
		// The same name again.
		"lfp(R x: or(P(x), lfp(R y: or(E(x y), some(z: and(R(z), E(z y)))))(x)))(a)",
		"and(R1(a), lfp(R1 x: or(P(x), some(y: and(R1(y), E(y x)))))(a), R1(a))",
		"or(R1(R1), lfp(R2 R1: or(R1(R1), S(R2 R1)))(R1))",
		"lfp(P x: lfp(P x: or(P(x), E(x x)))(x))(x)",
		"lfp(P x: or(lfp(E x y: or(P(x), E(y x)))(x x), E(x x)))(x)",
		// Within other formulas, with negations beside them.
		"all(x: or(not(P(x)), lfp(R y: or(not(P(y)), not(not(R(y)))))(x)))",
		"and(not(some(x: P(x))), some(x: lfp(R y: not(or(P(y), not(R(y)))))(x)))",
	} {
		wantFlat(t, parse(t, text), structures...)
	}
}

// TestFlatAtRandom is promise P6.3 for Flat, and for One of its system.
func TestFlatAtRandom(t *testing.T) {
	m := newMaker(7)
	several, compared := 0, 0
	for range 700 {
		f := m.nested("x", "y")
		compared += wantFlat(t, f, m.structure(1), m.structure(2), m.structure(3))
		if defs, _ := flat(t, f); len(defs) > 1 {
			several++
			if _, e := fix.One(defs, 0); e == api.OK && len(defs) < 5 {
				wantOne(t, defs, m.structure(2))
			}
		}
	}
	if several < 200 || compared < 1500 {
		t.Errorf("only %d formulas have more than one FLfp, and only %d results were compared", several, compared)
	}
}

// TestFlatVars is that a relation has the variables around it only if it depends on them.
func TestFlatVars(t *testing.T) {
	for text, want := range map[string]string{
		"lfp(R x: P(x))(a)":                                                            "1",
		"some(u v: lfp(R x: P(x))(u))":                                                 "1",
		"some(u v: lfp(R x: E(u x))(v))":                                               "2",
		"some(u v: lfp(R x: E(u v))(v))":                                               "3",
		"lfp(R x: lfp(S y: P(y))(x))(a)":                                               "1 1",
		"lfp(R x: lfp(S y: R(y))(x))(a)":                                               "1 1",
		"lfp(R x: lfp(S y: E(x y))(x))(a)":                                             "1 2",
		"lfp(R x: or(E(p x), lfp(S y: P(y))(x)))(a)":                                   "2 1",
		"lfp(R x: or(E(p x), lfp(S y: R(y))(x)))(a)":                                   "2 2",
		"lfp(R x: or(E(p x), lfp(S y: lfp(T z: R(z))(y))(x)))(a)":                      "2 2 2",
		"lfp(R x: or(E(p x), lfp(S y: lfp(T z: S(z))(y))(x)))(a)":                      "2 1 1",
		"lfp(R x: or(E(p x), lfp(S y: or(R(y), lfp(T z: P(z))(y)))(x)))(a)":            "2 2 1",
		"and(lfp(R x: E(p x))(a), lfp(R x: E(x x))(p))":                                "2 1",
		"lfp(R x: or(E(p x), lfp(R y: R(y))(x)))(a)":                                   "2 1",
		"lfp(R x: or(E(p x), some(u: lfp(S y: or(E(u y), lfp(T z: R(z))(y)))(x))))(a)": "2 3 2",
	} {
		defs, _ := flat(t, parse(t, text))
		var counts []string
		for _, d := range defs {
			counts = append(counts, string(rune('0'+len(d.Vars))))
		}
		if got := strings.Join(counts, " "); got != want {
			t.Errorf("the definitions of %s have %s variables instead of %s: %s", text, got, want, writeDefs(defs))
		}
	}
}

func TestFlatErrors(t *testing.T) {
	for _, f := range []api.Formula{{}, not(api.Formula{}), {Kind: -1}, {Kind: api.FKinds}, lfp("R", "x", not(rel("R", "x")), "x"), lfp("R", "x", and(), "x y")} {
		wantFlatError(t, f, api.ErrForm)
	}
	const fixed = "lfp(R x: P(x))(a)"
	for _, text := range []string{
		"true",
		"P(x)",
		"all(x: not(P(x)))",
		"not(" + fixed + ")",
		"not(not(" + fixed + "))",
		"not(and(P(a), some(a: " + fixed + ")))",
		"and(" + fixed + ", not(" + fixed + "))",
		"lfp(R x: not(lfp(S y: P(y))(x)))(a)",
		"pfp(R x: P(x))(a)",
		"tc(x y: E(x y))(a b)",
		"exists(R 1: true)",
		"and(" + fixed + ", pfp(R x: P(x))(a))",
		"and(" + fixed + ", tc(x y: E(x y))(a b))",
		"and(not(exists(R 1: true)), " + fixed + ")",
		"pfp(R x: lfp(R x: P(x))(a))(a)",
		"tc(x y: lfp(R x: P(x))(y))(a b)",
		"exists(R 1: lfp(S x: R(x))(b))",
		"lfp(R x: tc(u v: E(u v))(x x))(a)",
		"lfp(R x: some(y: exists(R 1: R(y))))(a)",
		"lfp(R x: pfp(S y: P(y))(x))(a)",
	} {
		wantFlatError(t, parse(t, text), api.ErrArg)
	}
}

// TestFlatLimits has as many FLfp, and as many variables, as a system may have, and one more.
func TestFlatLimits(t *testing.T) {
	s := structure(t, "2; P/1 1; E/2 0,1")
	f := parse(t, "lfp(R x: P(x))(a)")
	wantFlat(t, or(repeat(8, f)...), s)
	wantFlatError(t, or(repeat(9, f)...), api.ErrSize)
	wantFlatError(t, or(append(repeat(9, f), not(f))...), api.ErrArg)
	wantFlatError(t, or(repeat(1000, f)...), api.ErrSize)
	chain := func(levels int) api.Formula {
		f := rel("P", "x")
		for range levels {
			f = lfp("R", "x", or(rel("R", "x"), f), "x")
		}
		return f
	}
	wantFlat(t, chain(8), s)
	wantFlatError(t, chain(9), api.ErrSize)

	// The kid of the FLfp has all of n variables free.
	wide := func(own, n int) api.Formula {
		vars := numbered("x", own)
		args := strings.Join(numbered("a", own), " ")
		return lfp("R", strings.Join(vars, " "), rel("T", strings.Join(append(vars[:own:own], numbered("p", n-own)...), " ")), args)
	}
	for own := range 12 {
		wantFlat(t, wide(own+1, 12))
	}
	for _, own := range []int{1, 2, 6, 11} {
		f := wide(own, 12)
		f.Kids[0] = and(f.Kids[0], rel("P", "q"))
		wantFlatError(t, f, api.ErrSize)
		wantFlatError(t, and(rel("P", "q"), some("q", f)), api.ErrSize)
	}
	// The inner one needs the variables of the outer one to ask for it.
	outer := func(n int) api.Formula {
		f := lfp("R", "x", or(rel("T", strings.Join(numbered("p", n), " ")), lfp("S", "u v w", rel("R", "u"), "x x x")), "a")
		return f
	}
	wantFlat(t, outer(9))
	wantFlatError(t, outer(10), api.ErrSize)
	// The deepest and the largest formulas.
	wantFlat(t, deep(58, f), s)
	wantFlat(t, or(append(repeat(3997, rel("P", "a")), f)...), s)
}
