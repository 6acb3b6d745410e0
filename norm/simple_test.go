package norm_test

import (
	"slices"
	"strings"
	"testing"

	"paraphrast/api"
	"paraphrast/formula"
	"paraphrast/norm"
)

func TestSimple(t *testing.T) {
	for text, want := range map[string]string{
		"some(x: or(false, and(true, not(not(true)))))": "true",
		"and()":                          "true",
		"or()":                           "false",
		"not(true)":                      "false",
		"not(not(false))":                "false",
		"and(true, or(false), true)":     "false",
		"or(false, and(true), false)":    "true",
		"all(x: not(some(y z: true)))":   "false",
		"P(x)":                           "P(x)",
		"not(not(not(P(x))))":            "not(P(x))",
		"and(P(x), true)":                "P(x)",
		"and(P(x), false)":               "false",
		"or(P(x), false)":                "P(x)",
		"or(P(x), true, Q())":            "true",
		"and(P(x), Q())":                 "and(P(x), Q())",
		"or(P(x), or(Q(), or(P(y))))":    "or(P(x), Q(), P(y))",
		"and(P(x), or(Q(), and(Q())))":   "and(P(x), Q())",
		"and(P(x), Q(), P(x), P(y))":     "and(P(x), Q(), P(y))",
		"or(Q(), and(P(x), P(x)), P(x))": "or(Q(), P(x))",
		"x = x":                          "true",
		"x = y":                          "x = y",
		"not(x < x)":                     "true",
		"x < y":                          "x < y",
		"some(x y: P(x))":                "some(x: P(x))",
		"all(x y: P(z))":                 "P(z)",
		"some(x: some(y: E(x y)))":       "some(x y: E(x y))",
		"all(x: all(x: P(x)))":           "all(x: P(x))",
		"all(x: all(y x: E(y x)))":       "all(y x: E(y x))",
		"some(x: all(y: E(x y)))":        "some(x: all(y: E(x y)))",
		"some(x: and(P(x), y = y))":      "some(x: P(x))",
		"lfp(R x: true)(a)":              "true",
		"lfp(R x: false)(a)":             "false",
		"lfp(R x: and(P(x), Q()))(a)":    "and(P(a), Q())",
		"lfp(R x: R(x))(a)":              "lfp(R x: R(x))(a)",
		"pfp(R x y: not(E(y x)))(a b)":   "not(E(b a))",
		"pfp(R x: not(R(x)))(a)":         "pfp(R x: not(R(x)))(a)",
		"exists(R 2: P(x))":              "P(x)",
		"exists(R 1: R(x))":              "exists(R 1: R(x))",
		"exists(R 1: exists(R 1: R(x)))": "exists(R 1: R(x))",
		"tc(x y: true)(a b)":             "true",
		"tc(x y: false)(a b)":            "a = b",
		"tc(x y: false)(a a)":            "true",
		"tc(x y: E(x y))(a a)":           "true",
		"tc(x y: E(x y))(a b)":           "tc(x y: E(x y))(a b)",
		"tc(x y z u: false)(a b a c)":    "b = c",
		"tc(x y z u: false)(a b c d)":    "tc(x y z u: false)(a b c d)",
		"tc(x y z u: E(x u))(a b a b)":   "true",
		"tc(x y z u: E(x u))(a b b a)":   "tc(x y z u: E(x u))(a b b a)",
	} {
		f := parse(t, text)
		g, e := norm.Simple(f)
		wantText(t, "Simple("+text+")", g, e, want)
	}
	// Here some variable must be renamed, or the fixed point must stay.
	structures := newMaker(10).structures()
	for _, text := range []string{
		"lfp(R x: some(y: E(x y)))(y)",
		"pfp(R x: all(y z: or(E(x y), E(z y))))(y)",
		"lfp(R x y: some(v1: and(E(x v1), E(v1 y))))(y v1)",
	} {
		f := parse(t, text)
		g, e := norm.Simple(f)
		if e != api.OK {
			t.Errorf("Simple(%s) is error %d", text, e)
		}
		wantMeaning(t, f, g, structures)
	}
	// No formula can bind more than 12 variables.
	text := "and(T(a b c d e f g h i j k l), P(m))"
	f := bound(api.FAll, "a b c d e f", bound(api.FAll, "g h i j k l", parse(t, text)))
	g, e := norm.Simple(f)
	wantText(t, "Simple("+write(f)+")", g, e, "all(a b c d e f g h i j k l: "+text+")")
	f = bound(api.FAll, "a b c d e f m", f.Kids[0])
	g, e = norm.Simple(f)
	wantText(t, "Simple("+write(f)+")", g, e, write(f))
}

// TestSimpleByDefinition is promise P4.1 for Simple, and its section.
func TestSimpleByDefinition(t *testing.T) {
	m := newMaker(11)
	structures := m.structures()
	for range 1000 {
		f := m.valid(allKinds(), 3000)
		g, e := norm.Simple(f)
		if e != api.OK || formula.Size(g) > formula.Size(f) {
			t.Errorf("Simple(%s) is %s, error %d", write(f), write(g), e)
		}
		wantMeaning(t, f, g, structures)
	}
}

// filled returns f with true and false, at random, in place of atoms.
func (m maker) filled(f api.Formula) api.Formula {
	if f.Kind < api.FNot {
		return api.Formula{Kind: []int{api.FAnd, api.FOr}[m.Intn(2)]}
	}
	for i, kid := range f.Kids {
		f.Kids[i] = m.filled(kid)
	}
	return f
}

// holds reports whether f holds, where no variable matters.
func holds(f api.Formula) bool {
	switch f.Kind {
	case api.FNot:
		return !holds(f.Kids[0])
	case api.FAnd, api.FOr:
		for _, kid := range f.Kids {
			if holds(kid) == (f.Kind == api.FOr) {
				return f.Kind == api.FOr
			}
		}
		return f.Kind == api.FAnd
	}
	return holds(f.Kids[0])
}

// TestSimpleConstants has formulas of those kinds of which Simple leaves nothing.
func TestSimpleConstants(t *testing.T) {
	m := newMaker(12)
	for range 2000 {
		f := m.filled(m.formula(1+m.Intn(9), firstKinds()))
		want := "false"
		if holds(f) {
			want = "true"
		}
		g, e := norm.Simple(f)
		wantText(t, "Simple("+write(f)+")", g, e, want)
	}
	for _, f := range []api.Formula{deep(59, and()), and(repeat(3999, and())...), not(or(repeat(3998, or())...)), bound(api.FAll, numbered("x", 12), and())} {
		g, e := norm.Simple(f)
		if holds(f) {
			wantText(t, "Simple of a large formula", g, e, "true")
		} else {
			wantText(t, "Simple of a large formula", g, e, "false")
		}
	}
}

// TestSimpleLarge has formulas at the limits, and some whose texts are too long for formula.Text.
func TestSimpleLarge(t *testing.T) {
	long := and()
	for _, v := range names(numbered("abcdefghi", 300)) {
		long.Kids = append(long.Kids, rel("T", strings.Repeat(v+" ", 12)))
	}
	q := rel("Q", "")
	for _, c := range []struct{ f, want api.Formula }{
		{or(long, or(), q, q), or(long, q)},
		{or(long, not(long)), or(long, not(long))},
		{not(not(and(long, long.Kids[7], q))), and(append(slices.Clone(long.Kids), q)...)},
		{deep(59, q), not(q)},
		{and(repeat(3999, q)...), q},
	} {
		g, e := norm.Simple(c.f)
		if e != api.OK || !formula.Same(g, c.want) {
			t.Errorf("Simple of a formula of size %d has size %d, error %d", formula.Size(c.f), formula.Size(g), e)
		}
	}
	// Only the meaning of these is certain.
	different := bound(api.FAll, "abcdefghi0", long)
	for _, f := range []api.Formula{or(long, long), or(different, long, different)} {
		g, e := norm.Simple(f)
		if e != api.OK || formula.Size(g) > formula.Size(f) {
			t.Errorf("Simple of a formula of size %d has size %d, error %d", formula.Size(f), formula.Size(g), e)
		}
		wantMeaning(t, f, g, []api.Structure{
			{Size: 1, Rels: []api.Rel{{Name: "T", Arity: 12}}},
			{Size: 1, Rels: []api.Rel{{Name: "T", Arity: 12, Tuples: [][]int{make([]int, 12)}}}},
		})
	}
}
