package norm_test

import (
	"testing"

	"paraphrast/api"
	"paraphrast/formula"
	"paraphrast/norm"
)

// prenex reports whether f has the form of a result of Prenex.
func prenex(f api.Formula) bool {
	for f.Kind == api.FSome || f.Kind == api.FAll {
		f = f.Kids[0]
	}
	return !has(f, api.FSome, api.FAll, api.FLfp, api.FPfp, api.FTc, api.FSecond)
}

// wantPrenex returns what Prenex makes of f, which must not be an error.
func wantPrenex(t *testing.T, f api.Formula) api.Formula {
	t.Helper()
	g, e := norm.Prenex(f)
	if e != api.OK || !formula.Valid(g) || !prenex(g) {
		t.Errorf("Prenex(%s) is %s, error %d", write(f), write(g), e)
	}
	return g
}

func TestPrenex(t *testing.T) {
	// What has the form already is not changed.
	for _, text := range []string{
		"true",
		"E(x y)",
		"not(and(P(x), or(Q(), x < y)))",
		"some(x: P(x))",
		"all(x y: E(x y))",
		"all(x: some(y: all(z: or(E(x y), E(y z)))))",
		"some(x: all(y: or(E(x y), not(P(z)))))",
	} {
		wantText(t, "Prenex("+text+")", wantPrenex(t, parse(t, text)), api.OK, text)
	}
	structures := newMaker(13).structures()
	for _, text := range []string{
		"not(some(x: P(x)))",
		"not(all(x: not(some(y: E(x y)))))",
		"and(P(x), some(x: not(P(x))))",
		"and(some(x: P(x)), some(x: not(P(x))))",
		"or(all(x: P(x)), all(x: not(P(x))))",
		"or(some(x: P(x)), some(y: E(y y)))",
		"and(some(x: P(x)), all(x: or(E(x x), P(x))))",
		"some(x: some(x: P(x)))",
		"some(x: and(P(x), all(x: P(x))))",
		"some(x: true)",
		"and(some(x: true), not(all(y: false)))",
		"and(or(all(x: some(y: E(x y))), some(x: all(y: E(x y)))), not(and(some(x: P(x)), all(x: not(P(x))))))",
		"and(all(x: some(y: E(x y))), all(x: some(y: E(y x))), all(x: some(y: and(not(E(x y)), P(y)))))",
		"or(some(x: all(y: E(x y))), some(x: all(y: E(y x))), some(x: all(y: and(not(E(x y)), P(y)))))",
		"or(and(some(x: P(x)), some(x: not(P(x)))), and(some(x: E(x x)), some(x: not(E(x x)))), all(x y: E(x y)))",
		"and(or(all(x: P(x)), all(x: not(P(x)))), or(all(x: E(x x)), all(x: not(E(x x)))), some(x y: E(x y)))",
		"not(and(not(and(some(x: P(x)), some(x: not(P(x))))), or(all(x: P(x)), all(x: not(P(x))))))",
		"and(some(x: P(x)), or(some(y: E(y y)), some(y: and(P(y), some(x: E(x y))))), some(y: not(P(y))))",
	} {
		f := parse(t, text)
		wantMeaning(t, f, wantPrenex(t, f), structures)
	}
	for _, text := range []string{"lfp(R x: R(x))(x)", "pfp(R x: P(x))(x)", "tc(x y: E(x y))(x y)", "exists(R 0: true)", "some(x: and(P(x), not(exists(R 0: true))))"} {
		f, e := norm.Prenex(parse(t, text))
		wantError(t, "Prenex("+text+")", f, e, api.ErrArg)
	}
}

// TestPrenexByDefinition is promise P4.1 for Prenex, and its section.
func TestPrenexByDefinition(t *testing.T) {
	m := newMaker(14)
	structures := m.structures()
	for range 1500 {
		f := m.valid(firstKinds(), 3000)
		wantMeaning(t, f, wantPrenex(t, f), structures)
	}
}

// alternating makes a combination of formulas that begin with quantifiers of different kinds.
func (m maker) alternating(depth int) api.Formula {
	if depth <= 1 {
		f := m.valid([]int{api.FNot, api.FAnd, api.FOr}, 10)
		for i := range m.Intn(5) {
			f = bound(api.FSome+(depth+i)%2, m.vars(1, true), f)
		}
		return f
	}
	a, b := m.alternating(depth-1), m.alternating(depth-1)
	return []api.Formula{and(a, b), or(a, b), not(or(a, b)), not(and(b, a)), bound(api.FSome+m.Intn(2), m.vars(1, true), a)}[m.Intn(5)]
}

// TestPrenexBlocks is promise P4.1 for formulas whose quantifiers alternate often.
func TestPrenexBlocks(t *testing.T) {
	m := newMaker(20)
	structures := m.structures()
	for range 500 {
		f := m.alternating(2 + m.Intn(2))
		wantMeaning(t, f, wantPrenex(t, f), structures)
	}
}

// TestPrenexVariables has quantifiers that need not have variables of their own: FSome in FOr, and FAll in FAnd.
func TestPrenexVariables(t *testing.T) {
	for text, most := range map[string]int{
		"or(some(x: P(x)), some(y: E(y y)), some(z: not(P(z))))":                     1,
		"and(all(x: P(x)), all(y: E(y y)), all(z: not(P(z))))":                       1,
		"not(and(not(some(x: P(x))), not(some(y: E(y y)))))":                         1,
		"and(some(x: P(x)), some(y: E(y y)))":                                        2,
		"or(all(x y: E(x y)), some(x: P(x)), all(z: P(z)), some(u v: E(u v)))":       5,
		"and(all(x: some(y: E(x y))), all(x: some(y: E(y x))))":                      3,
		"and(or(some(x: P(x)), some(x: E(x x))), or(some(y: Q()), some(x y: P(x))))": 3,
	} {
		if _, vars := count(wantPrenex(t, parse(t, text))); vars > most {
			t.Errorf("Prenex(%s) binds %d variables instead of %d", text, vars, most)
		}
	}
}

// TestPrenexSize has formulas for which there must be no ErrSize: at most 400 formulas, at most 12 deep, that bind at most 20 variables; and larger ones.
func TestPrenexSize(t *testing.T) {
	m := newMaker(15)
	tested := 0
	for range 3000 {
		f := m.formula(3+m.Intn(10), firstKinds())
		if formulas, vars := count(f); formulas > 400 || vars > 20 || formula.Depth(f) > 12 || !formula.Valid(f) {
			continue
		}
		tested++
		if g := wantPrenex(t, f); formula.Size(g) > formula.Size(f) {
			t.Errorf("Prenex makes %s larger: %s", write(f), write(g))
		}
	}
	if tested < 1000 {
		t.Errorf("only %d formulas are tested", tested)
	}
	// Eleven levels of quantifiers that alternate, and as many others within them as there may be.
	f := rel("E", "x y")
	for i := range 11 {
		f = bound(api.FSome+i%2, []string{"x", "y"}[i%2], f)
	}
	wantPrenex(t, and(f.Kids[0], and(f.Kids[0].Kids[0])))
	wantPrenex(t, and(append(repeat(378, rel("P", "x")), f.Kids[0].Kids[0], f.Kids[0].Kids[0])...))
	// Many quantifiers of one variable.
	l := []api.Formula{}
	for i := range 199 {
		l = append(l, bound(api.FSome+i%2, "x", rel("P", "x")))
	}
	wantPrenex(t, and(l...))
	wantPrenex(t, not(or(l...)))
	for first := range 2 {
		f = and()
		for i := range 59 {
			f = bound(api.FSome+(i+first)%2, []string{"x", "x y", numbered("x", 12)}[i%3], f)
		}
		wantPrenex(t, f)
	}
	many := and(repeat(1999, bound(api.FSome, numbered("x", 12), rel("T", numbered("x", 12))))...)
	g, e := norm.Prenex(many)
	wantError(t, "Prenex of a formula with 1999 tuples of variables", g, e, api.ErrSize)
	many.Kind = api.FOr
	wantPrenex(t, many)
}
