package formula_test

import (
	"slices"
	"testing"

	"paraphrast/api"
	"paraphrast/formula"
)

func wantFree(t *testing.T, f api.Formula, want ...string) {
	t.Helper()
	if l := formula.Free(f); !slices.Equal(l, want) {
		t.Errorf("the free variables of %s are %q instead of %q", write(f), l, want)
	}
}

func wantSymbols(t *testing.T, f api.Formula, want ...api.Symbol) {
	t.Helper()
	if l := formula.Symbols(f); !slices.Equal(l, want) {
		t.Errorf("the symbols of %s are %v instead of %v", write(f), l, want)
	}
}

func TestFree(t *testing.T) {
	for text, want := range map[string][]string{
		"true":                            nil,
		"Q()":                             nil,
		"E(y x)":                          {"x", "y"},
		"E(x x)":                          {"x"},
		"y = x":                           {"x", "y"},
		"y < y":                           {"y"},
		"not(P(x))":                       {"x"},
		"and(P(z), P(x), y = x)":          {"x", "y", "z"},
		"some(x: E(x y))":                 {"y"},
		"all(x y: E(x y))":                nil,
		"and(P(x), some(x: P(x)))":        {"x"},
		"and(some(x: P(x)), P(x))":        {"x"},
		"some(x: some(x: P(x)))":          nil,
		"some(x: and(all(x: P(x)), x=y))": {"y"},
		"some(R: R(R))":                   nil,
		"R(R)":                            {"R"},
		"lfp(R x: E(x y))(z)":             {"y", "z"},
		"lfp(R x: E(x y))(x)":             {"x", "y"},
		"some(x: lfp(R x: E(x y))(x))":    {"y"},
		"pfp(R x: E(x x))(x)":             {"x"},
		"pfp(R x y: z = y)(b a)":          {"a", "b", "z"},
		"tc(x y: E(x y))(a b)":            {"a", "b"},
		"tc(x y: E(x z))(y x)":            {"x", "y", "z"},
		"exists(R 1: R(x))":               {"x"},
		"exists(x 1: x(x))":               {"x"},
		"x10 = x9":                        {"x10", "x9"},
		"E(b B a A a1 a0 ab Z9)":          {"A", "B", "Z9", "a", "a0", "a1", "ab", "b"},
	} {
		wantFree(t, parse(t, text), want...)
	}
}

func TestSymbols(t *testing.T) {
	for text, want := range map[string][]api.Symbol{
		"true":                                 nil,
		"x = y":                                nil,
		"Q()":                                  {{Name: "Q", Arity: 0}},
		"E(x x)":                               {{Name: "E", Arity: 2}},
		"and(P(x), E(x y), P(y))":              {{Name: "E", Arity: 2}, {Name: "P", Arity: 1}},
		"not(some(x: P(x)))":                   {{Name: "P", Arity: 1}},
		"lfp(R x: and(R(x), E(x x)))(a)":       {{Name: "E", Arity: 2}},
		"pfp(R x: not(R(x)))(a)":               nil,
		"pfp(R x: S(x x))(a)":                  {{Name: "S", Arity: 2}},
		"exists(R 1: and(R(x), S()))":          {{Name: "S", Arity: 0}},
		"tc(x y: R(x y))(a b)":                 {{Name: "R", Arity: 2}},
		"and(exists(R 1: R(x)), R(x y))":       {{Name: "R", Arity: 2}},
		"and(R(x y), exists(R 1: R(x)))":       {{Name: "R", Arity: 2}},
		"exists(R 1: exists(R 0: R()))":        nil,
		"exists(R 1: and(R(x), S(R)))":         {{Name: "S", Arity: 1}},
		"and(B(), a(), A(), b(), R10(), R9())": {{Name: "A"}, {Name: "B"}, {Name: "R10"}, {Name: "R9"}, {Name: "a"}, {Name: "b"}},
	} {
		wantSymbols(t, parse(t, text), want...)
	}
}

// TestFreeAtRandom is promise P2.3.
func TestFreeAtRandom(t *testing.T) {
	for _, f := range append(samples(t), randomValid(t, 7, 5000)...) {
		var names []string
		for v := range free(f) {
			names = append(names, v)
		}
		slices.Sort(names)
		wantFree(t, f, names...)
		set := symbols(f)
		names = nil
		for s := range set {
			names = append(names, s)
		}
		slices.Sort(names)
		var l []api.Symbol
		for _, s := range names {
			l = append(l, api.Symbol{Name: s, Arity: set[s]})
		}
		wantSymbols(t, f, l...)
		if size, d := formula.Size(f), formula.Depth(f); size != len(parts(f)) || d != depth(f) {
			t.Errorf("%s has the size %d and the depth %d", write(f), size, d)
		}
	}
}

func TestSizeAndDepth(t *testing.T) {
	cases := []struct {
		f           api.Formula
		size, depth int
	}{
		{and(), 1, 1},
		{rel("R", "x y"), 1, 1},
		{eq("x", "y"), 1, 1},
		{not(less("x", "y")), 2, 2},
		{and(eq("x", "y"), eq("x", "y")), 3, 2},
		{or(and(), not(and()), and()), 5, 3},
		{some("x y z", eq("x", "y")), 2, 2},
		{lfp("R", "x", not(not(rel("R", "x"))), "x"), 4, 4},
		{exists("R", 3, tc("x y", pfp("S", "x", or(), "x"), "a b")), 4, 4},
	}
	for _, c := range cases {
		if size, depth := formula.Size(c.f), formula.Depth(c.f); size != c.size || depth != c.depth {
			t.Errorf("%s has the size %d and the depth %d instead of %d and %d", write(c.f), size, depth, c.size, c.depth)
		}
	}
}

func wantPositive(t *testing.T, f api.Formula, name string, want bool, wantErr api.Errno) {
	t.Helper()
	if is, e := formula.Positive(f, name); is != want || e != wantErr {
		t.Errorf("Positive(%s, %q) is %v, error %d", write(f), name, is, e)
	}
}

func TestPositive(t *testing.T) {
	for text, want := range map[string]bool{
		"R(x)":                                true,
		"S(x)":                                true,
		"x = y":                               true,
		"not(R(x))":                           false,
		"not(not(R(x)))":                      true,
		"not(not(not(R(x))))":                 false,
		"and(R(x), not(R(x)))":                false,
		"and(not(R(x)), R(x))":                false,
		"or(R(x), not(S(x)))":                 true,
		"some(x: R(x))":                       true,
		"all(x: not(R(x)))":                   false,
		"not(and(not(R(x)), S(x)))":           true,
		"tc(x y: R(x))(a b)":                  true,
		"tc(x y: not(R(x)))(a b)":             false,
		"lfp(S x: R(x))(a)":                   true,
		"lfp(S x: not(R(x)))(a)":              false,
		"lfp(R x: R(x))(a)":                   true,
		"not(lfp(R x: R(x))(a))":              true,
		"pfp(S x: R(x))(a)":                   false,
		"pfp(S x: not(not(R(x))))(a)":         false,
		"not(pfp(S x: R(x))(a))":              false,
		"pfp(R x: not(R(x)))(a)":              true,
		"and(pfp(R x: not(R(x)))(a), R(x))":   true,
		"and(pfp(R x: R(x))(a), not(R(x)))":   false,
		"exists(R 1: not(R(x)))":              true,
		"exists(S 1: not(R(x)))":              false,
		"exists(S 1: R(x))":                   true,
		"pfp(S x: S(x))(R)":                   true,
		"not(R = x)":                          true,
		"not(some(R: P(R)))":                  true,
		"and(not(exists(R 1: R(x))), R(x y))": true,
	} {
		wantPositive(t, parse(t, text), "R", want, api.OK)
	}
	for _, name := range []string{"", "and", "1", "a name", "abcdefghijklm", "é"} {
		wantPositive(t, not(rel("R", "x")), name, true, api.OK)
		wantPositive(t, api.Formula{}, name, false, api.ErrForm)
	}
	wantPositive(t, api.Formula{}, "R", false, api.ErrForm)
	wantPositive(t, nested(61), "R", false, api.ErrForm)
	wantPositive(t, lfp("R", "x", not(rel("R", "x")), "a"), "R", false, api.ErrForm)
}

// TestPositiveAtRandom is promise P2.4.
func TestPositiveAtRandom(t *testing.T) {
	for _, f := range append(samples(t), randomValid(t, 8, 5000)...) {
		for _, name := range []string{"P", "E", "R", "Q", "P1", "none"} {
			is := positive(f, name)
			wantPositive(t, f, name, is, api.OK)
			wantPositive(t, not(not(f)), name, is, api.OK)
			other, e := formula.Positive(not(f), name)
			if _, occurs := symbols(f)[name]; e != api.OK || is && other && occurs || !occurs && !(is && other) {
				t.Errorf("%s and its negation are %v and %v for %s", write(f), is, other, name)
			}
		}
	}
}

func wantSame(t *testing.T, f, g api.Formula, want bool) {
	t.Helper()
	if formula.Same(f, g) != want || formula.Same(g, f) != want {
		t.Errorf("Same of %v and %v is %v, and turned around %v", f, g, formula.Same(f, g), formula.Same(g, f))
	}
}

// TestSameFields changes each field of each formula in some samples; most results are not valid.
func TestSameFields(t *testing.T) {
	for _, f := range samples(t) {
		wantSame(t, f, clone(f), true)
		for _, g := range alteredWithin(f) {
			wantSame(t, f, g, equal(f, g))
			wantSame(t, g, clone(g), true)
		}
	}
}

func TestSameOfSamples(t *testing.T) {
	l := append(samples(t), samples(t)...)
	l = append(l, api.Formula{}, rel("", ""), rel("", ""), api.Formula{Kind: -1})
	for _, f := range l {
		for _, g := range l {
			wantSame(t, f, g, equal(f, g))
		}
	}
}

// TestSameLists has lists whose items are the same when they are written one behind the other.
func TestSameLists(t *testing.T) {
	wantSame(t, rel("R", "x y"), api.Formula{Name: "R", Args: []string{"x y"}}, false)
	wantSame(t, rel("R", "x"), api.Formula{Name: "R", Vars: []string{"x"}}, false)
	wantSame(t, rel("R", "x y"), rel("R", "y x"), false)
	wantSame(t, rel("R", "x"), rel("R", "x x"), false)
	wantSame(t, rel("R", ""), api.Formula{Name: "R", Args: []string{""}}, false)
	wantSame(t, and(and(), or()), and(or(), and()), false)
	wantSame(t, and(and(and())), and(and(), and()), false)
	wantSame(t, and(), or(), false)
	kids := []api.Formula{and(), and(), or()}
	wantSame(t, and(kids[:1]...), and(kids[:2]...), false)
	wantSame(t, and(kids[:2]...), and(kids[1:]...), false)
	wantSame(t, and(or(kids[:1]...), or(kids[:2]...)), and(or(kids[1:2]...), or(kids[1:]...)), false)
	wantSame(t, and(or(kids[:1]...), or(kids[:2]...)), and(or(kids[1:2]...), or(and(), and())), true)
}
