package norm_test

import (
	"slices"
	"strings"
	"testing"

	"paraphrast/api"
	"paraphrast/formula"
	"paraphrast/norm"
)

// last returns the index of the last pair whose component i is v, or -1.
func last(pairs [][2]string, i int, v string) int {
	for at, p := range slices.Backward(pairs) {
		if p[i] == v {
			return at
		}
	}
	return -1
}

// alike reports whether f and g differ only in the names of bound variables; pairs are those that are bound around them, the innermost last.
func alike(f, g api.Formula, pairs [][2]string) bool {
	if f.Kind != g.Kind || f.Name != g.Name || f.Arity != g.Arity || len(f.Vars) != len(g.Vars) || len(f.Args) != len(g.Args) || len(f.Kids) != len(g.Kids) {
		return false
	}
	for i, v := range f.Args {
		w := g.Args[i]
		a, b := last(pairs, 0, v), last(pairs, 1, w)
		if a != b || a < 0 && v != w {
			return false
		}
	}
	pairs = slices.Clone(pairs)
	for i, v := range f.Vars {
		pairs = append(pairs, [2]string{v, g.Vars[i]})
	}
	for i, kid := range f.Kids {
		if !alike(kid, g.Kids[i], pairs) {
			return false
		}
	}
	return true
}

// apart reports whether no variable of f is bound twice, or bound and free.
func apart(f api.Formula) bool {
	l := formula.Free(f)
	visit(f, nil, func(g api.Formula, _ []api.Formula) { l = append(l, g.Vars...) })
	slices.Sort(l)
	return len(slices.Compact(slices.Clone(l))) == len(l)
}

func wantApart(t *testing.T, f api.Formula) api.Formula {
	t.Helper()
	g, e := norm.Apart(f)
	if e != api.OK || !formula.Valid(g) || !alike(f, g, nil) || !apart(g) {
		t.Errorf("Apart(%s) is %s, error %d", write(f), write(g), e)
	}
	return g
}

func TestApart(t *testing.T) {
	// Where all variables are apart already, there is no reason to change any.
	for _, text := range []string{
		"true",
		"E(x x)",
		"and(E(x y), some(z: E(x z)), all(P: P(P)))",
		"lfp(R x y: or(E(x y), some(z: and(E(x z), R(z y)))))(a b)",
		"tc(x y: E(x y))(a a)",
	} {
		f := parse(t, text)
		wantText(t, "Apart("+text+")", wantApart(t, f), api.OK, text)
	}
	for _, text := range []string{
		"and(P(x), some(x: P(x)))",
		"and(some(x: P(x)), P(x))",
		"and(some(x: P(x)), all(x: P(x)))",
		"some(x: and(P(x), some(x: P(x)), P(x)))",
		"some(x y: some(y x: E(x y)))",
		"some(x: true)",
		"and(P(x), some(x: true))",
		"and(some(x: true), some(x: true))",
		"lfp(R x: and(P(x), R(x)))(x)",
		"lfp(R x y: lfp(R y x: R(x y))(x y))(y x)",
		"pfp(R x: some(x: R(x)))(x)",
		"tc(x y: E(x y))(x y)",
		"tc(x y: tc(y x: E(x y))(x y))(y x)",
		"exists(x 1: and(x(x), some(x: x(x))))",
		"and(P(v1), some(v2: E(v1 v2)), some(v2: E(v3 v2)), some(v2 v1: E(v1 v2)))",
		"some(v1: some(v1: some(v1: some(v2: some(v2: E(v1 v2))))))",
	} {
		wantApart(t, parse(t, text))
	}
	m := newMaker(4)
	structures := m.structures()
	for range 700 {
		f := m.valid(allKinds(), 3000)
		wantMeaning(t, f, wantApart(t, f), structures)
	}
	// As many variables as there can be, and names of the greatest length.
	many := strings.TrimSpace(strings.Repeat("abcdefghijkl ", 12))
	f := and(repeat(1999, bound(api.FSome, "Abcdefghij1 Abcdefghij2 abcdefghijkl", rel("T", many)))...)
	wantApart(t, f)
	wantApart(t, and(f.Kids[0], rel("T", many), bound(api.FAll, numbered("v", 12), rel("T", numbered("v", 12)))))
	f = parse(t, "E(x y)")
	for i := range 59 {
		f = bound(api.FSome+i%2, []string{"x y", "y x", "x z"}[i%3], f)
	}
	wantApart(t, f)
}

// occurrences calls see for each free occurrence of v in f, with the index of the argument.
func occurrences(f api.Formula, v string, see func(g api.Formula, i int, around []api.Formula)) {
	visit(f, nil, func(g api.Formula, around []api.Formula) {
		for i, arg := range g.Args {
			if arg == v && !binding(around, v) {
				see(g, i, around)
			}
		}
	})
}

// captured reports whether to is bound around a free occurrence of from.
func captured(f api.Formula, from, to string) bool {
	is := false
	occurrences(f, from, func(_ api.Formula, _ int, around []api.Formula) { is = is || binding(around, to) })
	return is
}

// replaced returns f with the free occurrences of from replaced; its text tells whether Rename does the same.
func replaced(f api.Formula, from, to string) api.Formula {
	g := deepCopy(f)
	var places []*string
	occurrences(g, from, func(h api.Formula, i int, _ []api.Formula) { places = append(places, &h.Args[i]) })
	for _, p := range places {
		*p = to
	}
	return g
}

func deepCopy(f api.Formula) api.Formula {
	f.Vars, f.Args, f.Kids = slices.Clone(f.Vars), slices.Clone(f.Args), slices.Clone(f.Kids)
	for i, kid := range f.Kids {
		f.Kids[i] = deepCopy(kid)
	}
	return f
}

func TestRename(t *testing.T) {
	for _, c := range []struct{ text, from, to, want string }{
		{"E(x y)", "x", "z", "E(z y)"},
		{"E(x x)", "x", "y", "E(y y)"},
		{"E(x y)", "x", "y", "E(y y)"},
		{"E(x y)", "x", "x", "E(x y)"},
		{"E(x y)", "z", "x", "E(x y)"},
		{"E(x y)", "E", "x", "E(x y)"},
		{"E(x E)", "E", "x", "E(x x)"},
		{"x = y", "y", "x", "x = x"},
		{"x < y", "x", "y1", "y1 < y"},
		{"some(x: P(x))", "x", "y", "some(x: P(x))"},
		{"some(x: P(x))", "x", "x", "some(x: P(x))"},
		{"and(P(x), some(x: P(x)), not(P(x)))", "x", "y", "and(P(y), some(x: P(x)), not(P(y)))"},
		{"some(x y: E(x y))", "x", "y", "some(x y: E(x y))"},
		{"some(x: some(y: E(x y)))", "x", "y", "some(x: some(y: E(x y)))"},
		{"some(y: some(x: E(x y)))", "x", "y", "some(y: some(x: E(x y)))"},
		{"and(P(x), some(y: P(y)))", "x", "y", "and(P(y), some(y: P(y)))"},
		{"some(y: E(x y))", "x", "x", "some(y: E(x y))"},
		{"lfp(R x: and(R(x), E(x z)))(x)", "x", "y", "lfp(R x: and(R(x), E(x z)))(y)"},
		{"lfp(R x: and(R(x), E(x z)))(x)", "z", "y", "lfp(R x: and(R(x), E(x y)))(x)"},
		{"lfp(R y: R(y))(x)", "x", "y", "lfp(R y: R(y))(y)"},
		{"pfp(R y: R(y))(x)", "x", "y", "pfp(R y: R(y))(y)"},
		{"tc(x y: E(x y))(x y)", "x", "y", "tc(x y: E(x y))(y y)"},
		{"tc(x y: E(z y))(x y)", "z", "a", "tc(x y: E(a y))(x y)"},
		{"exists(R 1: R(x))", "x", "R", "exists(R 1: R(R))"},
		{"T(a b c d e f g h i j k l)", "l", "abcdefghijkl", "T(a b c d e f g h i j k abcdefghijkl)"},
	} {
		f, e := norm.Rename(parse(t, c.text), c.from, c.to)
		wantText(t, "Rename("+c.text+", "+c.from+", "+c.to+")", f, e, c.want)
	}
	for _, c := range []struct{ text, from, to string }{
		{"some(y: P(x))", "x", "y"},
		{"some(y: E(x y))", "x", "y"},
		{"all(z y: P(x))", "x", "y"},
		{"all(y: some(z: P(x)))", "x", "y"},
		{"all(z: some(y: not(P(x))))", "x", "y"},
		{"and(some(x: some(y: P(x))), some(y: P(x)))", "x", "y"},
		{"and(some(y: P(x)), true)", "x", "y"},
		{"lfp(R y: P(x))(y)", "x", "y"},
		{"pfp(R y: P(x))(y)", "x", "y"},
		{"tc(y z: P(x))(y z)", "x", "y"},
		{"some(y: lfp(R x: R(x))(x))", "x", "y"},
		{"some(y: some(y: P(x)))", "x", "y"},
	} {
		f, e := norm.Rename(parse(t, c.text), c.from, c.to)
		wantError(t, "Rename("+c.text+", "+c.from+", "+c.to+")", f, e, api.ErrArg)
	}
	for _, name := range []string{"", "1", "x1234567890ab", "and", "true", "exists", "x y", "x ", "\xff", "é", "x_"} {
		for _, text := range []string{"P(x)", "some(y: P(x))"} {
			f, e := norm.Rename(parse(t, text), name, "y")
			wantError(t, "Rename("+text+", "+name+", y)", f, e, api.ErrName)
			f, e = norm.Rename(parse(t, text), "x", name)
			wantError(t, "Rename("+text+", x, "+name+")", f, e, api.ErrName)
			f, e = norm.Rename(parse(t, text), name, name)
			wantError(t, "Rename("+text+", "+name+", "+name+")", f, e, api.ErrName)
		}
	}
}

// TestRenameByDefinition is promise P4.1 for Rename, and its section.
func TestRenameByDefinition(t *testing.T) {
	m := newMaker(5)
	structures := m.structures()
	errors := 0
	for range 1500 {
		f := m.valid(allKinds(), 3000)
		from, to := m.vars(1, true), m.vars(1, true)
		g, e := norm.Rename(f, from, to)
		if captured(f, from, to) {
			wantError(t, "Rename("+write(f)+", "+from+", "+to+")", g, e, api.ErrArg)
			errors++
			continue
		}
		if e != api.OK || !formula.Same(g, replaced(f, from, to)) {
			t.Errorf("Rename(%s, %s, %s) is %s, error %d", write(f), from, to, write(g), e)
			continue
		}
		if from != to {
			same := api.Formula{Kind: api.FEq, Args: []string{from, to}}
			wantMeaning(t, bound(api.FSome, from, and(same, f)), g, structures)
		}
	}
	if errors < 50 {
		t.Errorf("only %d captures are tested", errors)
	}
}

// TestRenameToNew is promise P4.4 for Rename to a variable that does not occur.
func TestRenameToNew(t *testing.T) {
	m := newMaker(6)
	grown := 0
	for range 1500 {
		f, v := m.valid(allKinds(), api.MaxCost), m.vars(1, true)
		g, e := norm.Rename(f, v, "u")
		if e != api.OK {
			t.Errorf("Rename(%s, %s, u) is error %d", write(f), v, e)
		}
		a, _ := norm.Rank(f)
		b, _ := norm.Width(f)
		isBound := false
		visit(f, nil, func(g api.Formula, _ []api.Formula) { isBound = isBound || slices.Contains(g.Vars, v) })
		if isBound && slices.Contains(formula.Free(f), v) {
			b++
			grown++
		}
		width, _ := norm.Width(g)
		if !sameRank(g, a) || width != b {
			t.Errorf("Rename(%s, %s, u) is %s, of width %d instead of %d, or of another rank than %d", write(f), v, write(g), width, b, a)
		}
	}
	if grown < 50 {
		t.Errorf("only %d greater widths are tested", grown)
	}
}
