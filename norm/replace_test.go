package norm_test

import (
	"slices"
	"strings"
	"testing"

	"paraphrast/api"
	"paraphrast/formula"
	"paraphrast/mean"
	"paraphrast/norm"
)

// definition returns the definition of a text such as "E x y: E(y x)".
func definition(t *testing.T, text string) api.Def {
	t.Helper()
	head, body, _ := strings.Cut(text, ":")
	words := names(head)
	return api.Def{Name: words[0], Vars: words[1:], Body: parse(t, body)}
}

func TestReplace(t *testing.T) {
	for _, c := range []struct{ text, def, want string }{
		{"P(y)", "P x: E(x x)", "E(y y)"},
		{"E(y x)", "E x y: E(x y)", "E(y x)"},
		{"E(x x)", "E x y: and(E(y x), x < y)", "and(E(x x), x < x)"},
		{"some(y: E(y x))", "E x y: and(E(x y), x < y)", "some(y: and(E(y x), y < x))"},
		{"and(P(x), not(P(y)), true)", "P z: or(z = z, Q())", "and(or(x = x, Q()), not(or(y = y, Q())), true)"},
		{"Q()", "Q: some(x: P(x))", "some(x: P(x))"},
		{"and(P(x), Q())", "Q: true", "and(P(x), true)"},
		{"P(x)", "P x: false", "false"},
		{"P(x)", "P x: P(x)", "P(x)"},
		{"P(x)", "P x: not(P(x))", "not(P(x))"},
		{"P(x)", "R x: not(P(x))", "P(x)"},
		{"P(x)", "R R: not(R(R))", "P(x)"},
		{"P(x)", "P x: P()", "P()"},
		{"P(x)", "P x: P(x x)", "P(x x)"},
		{"P(P)", "P x: E(x x)", "E(P P)"},
		{"T(a b c d e f g h i j k l)", "T l k j i h g f e d c b a: T(a b c d e f g h i j k l)", "T(l k j i h g f e d c b a)"},
		{"P(y)", "P x: and(P(x), all(x y: E(x y)), some(x: P(x)))", "and(P(y), all(x y: E(x y)), some(x: P(x)))"},
		// What f binds is not replaced, and what d binds has nothing to do with f.
		{"exists(P 1: P(x))", "P x: true", "exists(P 1: P(x))"},
		{"and(P(x), lfp(P x: P(x))(x))", "P x: Q()", "and(Q(), lfp(P x: P(x))(x))"},
		{"and(P(x), pfp(P x: P(x))(x))", "P x: P(x)", "and(P(x), pfp(P x: P(x))(x))"},
		{"and(lfp(P x y: P(x y))(x x), P(x))", "P x: Q()", "and(lfp(P x y: P(x y))(x x), Q())"},
		{"exists(R 1: and(R(x), P(x)))", "P x: exists(R 0: R())", "exists(R 1: and(R(x), exists(R 0: R())))"},
		{"lfp(R x: or(R(x), P(x)))(a)", "P y: E(y y)", "lfp(R x: or(R(x), E(x x)))(a)"},
		{"exists(E 3: exists(P 1: P(x)))", "P x: E(x x)", "exists(E 3: exists(P 1: P(x)))"},
		{"and(P(x), exists(E 2: true))", "P x: E(x x)", "and(E(x x), exists(E 2: true))"},
		{"and(exists(P 0: exists(E 0: P())), P(x))", "P x: E(x x)", "and(exists(P 0: exists(E 0: P())), E(x x))"},
		{"exists(x 0: P(x))", "P x: E(x x)", "exists(x 0: E(x x))"},
		// Variables that f binds around Name, or that are bound in Body elsewhere, are no obstacle.
		{"some(x y: and(P(x), P(y)))", "P x: some(y: P(y))", "some(x y: and(some(y: P(y)), some(y: P(y))))"},
		{"some(z: E(z x))", "E x y: lfp(S y: S(y))(x)", "some(z: lfp(S y: S(y))(z))"},
	} {
		f, e := norm.Replace(parse(t, c.text), definition(t, c.def))
		if c.text == "some(x y: and(P(x), P(y)))" {
			wantMeaning(t, parse(t, c.want), f, newMaker(7).structures())
			continue
		}
		wantText(t, "Replace of "+c.def+" in "+c.text, f, e, c.want)
	}
}

// TestReplaceCapturesNothing has arguments that are bound in Body, so that these must have other names there.
func TestReplaceCapturesNothing(t *testing.T) {
	structures := newMaker(8).structures()
	for _, c := range []struct{ text, def, want string }{
		{"P(y)", "P x: some(y: E(x y))", "some(z: E(y z))"},
		{"P(y)", "P x: all(z y: or(E(x y), E(z y)))", "all(z u: or(E(y u), E(z u)))"},
		{"E(y x)", "E x y: some(x: E(x y))", "some(z: E(z x))"},
		{"E(y z)", "E x y: some(z: all(x: some(y: or(E(x y), E(z y)))))", "some(u: all(x: some(y: or(E(x y), E(u y)))))"},
		{"E(z y)", "E x y: some(z: and(E(x z), all(x: or(E(x y), E(z x)))))", "some(u: and(E(z u), all(x: or(E(x y), E(u x)))))"},
		{"E(y x)", "E x y: and(some(y: E(x y)), some(x: E(x y)), E(x y))", "and(some(z: E(y z)), some(z: E(z x)), E(y x))"},
		{"P(v1)", "P x: some(v1 v2: and(E(x v1), E(v1 v2)))", "some(a b: and(E(v1 a), E(a b)))"},
		{"P(v1)", "P x: some(v1: and(E(x v1), all(v2: some(v1: E(v1 x)))))", "some(a: and(E(v1 a), some(b: E(b v1))))"},
		{"some(v1: P(v1))", "P x: some(v1: E(x v1))", "some(a b: E(a b))"},
		{"P(y)", "P x: tc(y z: and(E(y z), not(x = z)))(x x)", "or(true, E(y y))"},
		{"E(y z)", "E a b: tc(y z: and(E(y z), not(y = a), not(z = b)))(b a)", "tc(u v: and(E(u v), not(u = y), not(v = z)))(z y)"},
		{"E(y z)", "E a b: lfp(R y: or(y = a, some(z: and(R(z), E(z y), not(z = b)))))(b)", "lfp(R u: or(u = y, some(v: and(R(v), E(v u), not(v = z)))))(z)"},
		{"E(y z)", "E a b: pfp(R z: or(P(z), and(not(R(z)), E(a z))))(a)", "pfp(R u: or(P(u), and(not(R(u)), E(y u))))(y)"},
		{"all(y: P(y))", "P x: exists(R 1: all(y: or(not(R(y)), E(x y))))", "all(y: exists(R 1: all(z: or(not(R(z)), E(y z)))))"},
		{"some(x: and(P(x), all(y: P(y))))", "P y: some(x: E(x y))", "some(x: and(some(z: E(z x)), all(y: some(z: E(z y)))))"},
	} {
		f, e := norm.Replace(parse(t, c.text), definition(t, c.def))
		if e != api.OK {
			t.Errorf("Replace of %s in %s is error %d", c.def, c.text, e)
		}
		g := parse(t, c.want)
		for _, v := range formula.Free(parse(t, c.text)) {
			g = and(g, api.Formula{Kind: api.FEq, Args: []string{v, v}})
		}
		wantMeaning(t, g, f, structures)
	}
}

func TestReplaceErrors(t *testing.T) {
	f := parse(t, "and(P(x), E(x y), exists(R 1: R(x)))")
	for _, d := range []api.Def{
		{},
		{Name: "", Vars: names("x"), Body: and()},
		{Name: "and", Vars: names("x"), Body: and()},
		{Name: "P1234567890ab", Vars: names("x"), Body: and()},
		{Name: "P", Vars: names("x x"), Body: and()},
		{Name: "P", Vars: names("x y z x"), Body: and()},
		{Name: "P", Vars: names("not"), Body: and()},
		{Name: "P", Vars: []string{""}, Body: and()},
		{Name: "P", Vars: names(numbered("x", 13)), Body: and()},
		{Name: "P", Vars: names(numbered("x", 30000)), Body: and()},
		{Name: "P", Vars: names("x")},
		{Name: "P", Vars: names("x"), Body: rel("", "x")},
		{Name: "P", Vars: names("x"), Body: not(and(rel("S", "x"), rel("S", "x x")))},
		{Name: "P", Vars: names("x"), Body: deep(60, and())},
		{Name: "P", Vars: names("x"), Body: defined(api.FLfp, "P", "x", not(rel("P", "x")), "x")},
	} {
		g, e := norm.Replace(f, d)
		wantError(t, "Replace of a definition that is not valid", g, e, api.ErrForm)
	}
	for _, c := range []struct{ text, def string }{
		// Name has another arity.
		{"P(x)", "P: true"},
		{"P(x)", "P x y: true"},
		{"Q()", "Q x: true"},
		{"and(exists(P 2: P(x x)), not(P(x)))", "P x y: true"},
		// A free variable of Body is not one of Vars.
		{"P(x)", "P x: E(x y)"},
		{"P(x)", "P x: and(P(x), some(y: P(y)), P(y))"},
		{"Q()", "Q: P(Q)"},
		{"true", "P x: P(y)"},
		{"P(x)", "P x: lfp(R y: R(y))(z)"},
		// A symbol of Body has another arity in f.
		{"and(P(x), E(x x))", "P x: E(x)"},
		{"E(x x)", "P x: E()"},
		{"and(E(x y), lfp(P x: E(x x))(x))", "P x: not(E(x x x))"},
		// A symbol of Body is bound around Name.
		{"exists(E 2: P(x))", "P x: E(x x)"},
		{"exists(E 3: P(x))", "P x: E(x x)"},
		{"exists(E 2: and(true, not(P(x))))", "P x: or(E(x x))"},
		{"and(exists(E 2: true), lfp(E x: P(x))(x))", "P x: E(x x)"},
		{"pfp(E x: some(x: P(x)))(x)", "P x: E(x x)"},
		{"exists(E 2: exists(S 1: P(x)))", "P x: E(x x)"},
		{"exists(S 2: exists(E 1: P(x)))", "P x: E(x x)"},
		{"exists(E 0: and(exists(P 1: P(x)), P(x)))", "P x: E(x x)"},
		{"exists(S 0: P(x))", "P x: and(E(x x), exists(E 0: E()), S())"},
	} {
		g, e := norm.Replace(parse(t, c.text), definition(t, c.def))
		wantError(t, "Replace of "+c.def+" in "+c.text, g, e, api.ErrArg)
	}
}

// refused reports whether Replace must return ErrArg, by the conditions of its section.
func refused(f api.Formula, d api.Def) bool {
	inBody := formula.Symbols(d.Body)
	for _, x := range formula.Symbols(f) {
		if x.Name == d.Name && x.Arity != len(d.Vars) {
			return true
		}
		for _, y := range inBody {
			if x.Name == y.Name && x.Name != d.Name && x.Arity != y.Arity {
				return true
			}
		}
	}
	for _, v := range formula.Free(d.Body) {
		if !slices.Contains(d.Vars, v) {
			return true
		}
	}
	is := false
	visit(f, nil, func(g api.Formula, around []api.Formula) {
		if g.Kind != api.FRel || g.Name != d.Name || slices.ContainsFunc(around, func(h api.Formula) bool { return binds(h, d.Name) }) {
			return
		}
		for _, y := range inBody {
			is = is || slices.ContainsFunc(around, func(h api.Formula) bool { return binds(h, y.Name) })
		}
	})
	return is
}

// TestReplaceByDefinition is promise P4.2.
func TestReplaceByDefinition(t *testing.T) {
	m := newMaker(9)
	refusals, replacements := 0, 0
	for range 4000 {
		f, x := m.valid(allKinds(), 500), m.symbol()
		d := api.Def{Name: x.Name, Vars: names(m.vars(x.Arity, true)), Body: m.valid(allKinds(), 100)}
		if m.Intn(8) == 0 {
			d.Vars = names(m.vars(m.Intn(5), true))
		} else if m.Intn(8) > 0 {
			d.Body = closed(d)
		}
		g, e := norm.Replace(f, d)
		if refused(f, d) {
			wantError(t, "Replace of "+write(d.Body)+" in "+write(f), g, e, api.ErrArg)
			refusals++
			continue
		}
		if e != api.OK {
			t.Errorf("Replace of %s(%v) as %s in %s is error %d", d.Name, d.Vars, write(d.Body), write(f), e)
			continue
		}
		wantReplaced(t, f, d, g, m.structure(1+m.Intn(3)))
		if formula.Size(g) != formula.Size(f) {
			replacements++
		}
	}
	if refusals < 300 || replacements < 300 {
		t.Errorf("only %d refusals and %d replacements are tested", refusals, replacements)
	}
}

// closed returns the Body of d without other free variables than the Vars.
func closed(d api.Def) api.Formula {
	f := d.Body
	for _, v := range formula.Free(f) {
		if !slices.Contains(d.Vars, v) {
			f = bound(api.FSome, v, f)
		}
	}
	return f
}

// wantReplaced fails unless g holds in s where f does once the relation is the one that d defines.
func wantReplaced(t *testing.T, f api.Formula, d api.Def, g api.Formula, s api.Structure) {
	t.Helper()
	what := "Replace of " + d.Name + "(" + strings.Join(d.Vars, " ") + ") as " + write(d.Body) + " in " + write(f)
	l, e := mean.Query(d.Body, s, d.Vars)
	if e != api.OK {
		t.Fatalf("%s: the query of the definition in %v is error %d", what, s, e)
	}
	changed := api.Structure{Size: s.Size}
	for _, r := range s.Rels {
		if r.Name != d.Name {
			changed.Rels = append(changed.Rels, r)
		}
	}
	changed.Rels = append(changed.Rels, api.Rel{Name: d.Name, Arity: len(d.Vars), Tuples: l})
	vars := formula.Free(f)
	for _, v := range formula.Free(g) {
		if !slices.Contains(vars, v) {
			t.Errorf("%s is %s, which has a free variable %s", what, write(g), v)
			return
		}
	}
	inF, inBody := formula.Symbols(f), formula.Symbols(d.Body)
	for _, x := range formula.Symbols(g) {
		if (!slices.Contains(inF, x) || x.Name == d.Name) && !slices.Contains(inBody, x) {
			t.Errorf("%s is %s, which has a symbol %v", what, write(g), x)
			return
		}
	}
	a, ok1 := query(t, f, changed, vars)
	b, ok2 := query(t, g, s, vars)
	if ok1 && ok2 && a != b {
		t.Errorf("in %v, %s is %s, which holds for %v: %s instead of %s", s, what, write(g), vars, b, a)
	}
}

// TestReplaceSize is about results at the limits, and far beyond them.
func TestReplaceSize(t *testing.T) {
	d := api.Def{Name: "P", Vars: names("x"), Body: deep(2, rel("E", "x x"))}
	p := rel("P", "x")
	// A result of millions of formulas is not made at all.
	far, body := and(repeat(3999, p)...), and(repeat(3999, p)...)
	if n := testing.AllocsPerRun(1, func() { norm.Replace(far, api.Def{Name: "P", Vars: names("x"), Body: body}) }); n > 1e6 {
		t.Errorf("Replace with a result that is far too large makes %v allocations", n)
	}
	for _, c := range []struct {
		f    api.Formula
		body api.Formula
		want api.Errno
	}{
		{and(repeat(1333, p)...), d.Body, api.OK},
		{and(append(repeat(1333, p), and())...), d.Body, api.ErrSize},
		{and(repeat(1334, p)...), d.Body, api.ErrSize},
		{and(repeat(3999, p)...), d.Body.Kids[0].Kids[0], api.OK},
		{far, body, api.ErrSize},
		{and(append(repeat(300, p), repeat(1000, exists("P", 1, p))...)...), deep(4, p), api.OK},
		{p, and(repeat(3999, p)...), api.OK},
		{not(p), and(repeat(3999, p)...), api.ErrSize},
		{rel("R", "x"), and(repeat(3999, p)...), api.OK},
		{deep(30, p), deep(29, p), api.OK},
		{deep(30, p), deep(30, p), api.ErrSize},
		{deep(59, p), deep(1, p), api.ErrSize},
		{deep(59, rel("R", "x")), deep(59, p), api.OK},
		{and(deep(58, rel("R", "x")), p), deep(58, p), api.OK},
	} {
		d.Body = c.body
		g, e := norm.Replace(c.f, d)
		if c.want != api.OK {
			wantError(t, "Replace with a large result", g, e, c.want)
		} else if e != api.OK || !formula.Valid(g) {
			t.Errorf("Replace in a formula of size %d and depth %d is error %d", formula.Size(c.f), formula.Depth(c.f), e)
		}
	}
}
