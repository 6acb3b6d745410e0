package formula_test

import (
	"math"
	"strconv"
	"strings"
	"testing"

	"paraphrast/api"
	"paraphrast/formula"
)

func TestNameLength(t *testing.T) {
	for _, good := range []string{"E", "x1", "abcdefghijkl", "Z99999999999"} {
		if !formula.Name(good) {
			t.Errorf("%q is no name", good)
		}
	}
	for _, bad := range []string{"", "abcdefghijklm", "a123456789012", strings.Repeat("a", 1<<20)} {
		if formula.Name(bad) {
			t.Errorf("%q is a name", bad)
		}
	}
}

func TestNameBytes(t *testing.T) {
	letters := "abcdefghijklmnopqrstuvwxyzABCDEFGHIJKLMNOPQRSTUVWXYZ"
	for c := range 256 {
		b := string([]byte{byte(c)})
		isLetter := strings.Contains(letters, b)
		isDigit := strings.Contains("0123456789", b)
		if formula.Name(b) != isLetter {
			t.Errorf("Name(%q) is %v", b, !isLetter)
		}
		for _, s := range []string{"x" + b, "x" + b + "x", "xxxxxxxxxxx" + b} {
			if formula.Name(s) != (isLetter || isDigit) {
				t.Errorf("Name(%q) is %v", s, !(isLetter || isDigit))
			}
		}
	}
	for _, bad := range []string{"é", "aé", "日", "a\x00", "a b", " a", "a ", "1a", "1"} {
		if formula.Name(bad) {
			t.Errorf("%q is a name", bad)
		}
	}
}

func TestNameWords(t *testing.T) {
	for _, w := range words() {
		if formula.Name(w) {
			t.Errorf("the word %q is a name", w)
		}
		for _, good := range []string{w + "1", "x" + w, strings.ToUpper(w), strings.ToUpper(w[:1]) + w[1:], w[:len(w)-1]} {
			if !formula.Name(good) {
				t.Errorf("%q is no name", good)
			}
		}
	}
}

func wantValid(t *testing.T, f api.Formula, want bool) {
	t.Helper()
	if formula.Valid(f) != want {
		t.Errorf("Valid(%.300s) is %v", write(f), !want)
	}
}

func TestValidSamples(t *testing.T) {
	for _, f := range samples(t) {
		wantValid(t, f, true)
		wantValid(t, f, valid(f))
	}
}

func TestValidKinds(t *testing.T) {
	for _, kind := range []int{math.MinInt, -1, api.FKinds, api.FKinds + 1, 1 << 32, math.MaxInt} {
		for _, f := range samples(t) {
			f.Kind = kind
			wantValid(t, f, false)
		}
		wantValid(t, api.Formula{Kind: kind}, false)
		wantValid(t, not(api.Formula{Kind: kind}), false)
	}
	for kind := range api.FKinds {
		f := api.Formula{Kind: kind}
		wantValid(t, f, kind == api.FAnd || kind == api.FOr)
	}
}

// altered returns what one gets by changing one field of f itself, whatever its kind is.
func altered(f api.Formula) []api.Formula {
	var l []api.Formula
	change := func(by func(g *api.Formula)) {
		g := clone(f)
		by(&g)
		l = append(l, g)
	}
	for kind := -1; kind <= api.FKinds; kind++ {
		change(func(g *api.Formula) { g.Kind = kind })
	}
	for _, arity := range []int{math.MinInt, -1, 0, 1, 2, 12, 13, math.MaxInt} {
		change(func(g *api.Formula) { g.Arity = arity })
	}
	for _, s := range []string{"", "R", "E", "P", "x", "and", "1", "abcdefghijklm", "a b", "é"} {
		change(func(g *api.Formula) { g.Name = s })
		for i := range f.Vars {
			change(func(g *api.Formula) { g.Vars[i] = s })
		}
		for i := range f.Args {
			change(func(g *api.Formula) { g.Args[i] = s })
		}
		change(func(g *api.Formula) { g.Vars = append(g.Vars, s) })
		change(func(g *api.Formula) { g.Args = append(g.Args, s) })
		change(func(g *api.Formula) { g.Vars, g.Args = append(g.Vars, s), append(g.Args, "x") })
	}
	for i := range f.Vars {
		change(func(g *api.Formula) { g.Vars[i] = g.Vars[0] })
		change(func(g *api.Formula) { g.Vars = g.Vars[:i] })
	}
	for i := range f.Args {
		change(func(g *api.Formula) { g.Args = g.Args[:i] })
	}
	for _, kid := range []api.Formula{{}, and(), eq("x", "y"), rel("E", "x y"), rel("R", "x"), not(rel("R", "x")), {Kind: -1}} {
		change(func(g *api.Formula) { g.Kids = append(g.Kids, kid) })
		for i := range f.Kids {
			change(func(g *api.Formula) { g.Kids[i] = kid })
		}
	}
	for i := range f.Kids {
		change(func(g *api.Formula) { g.Kids = g.Kids[:i] })
	}
	return l
}

// alteredWithin does so for each formula in f.
func alteredWithin(f api.Formula) []api.Formula {
	l := altered(f)
	for i := range f.Kids {
		for _, kid := range alteredWithin(f.Kids[i]) {
			g := clone(f)
			g.Kids[i] = kid
			l = append(l, g)
		}
	}
	return l
}

// TestValidFields changes each field of each formula in the samples.
func TestValidFields(t *testing.T) {
	count := map[bool]int{}
	for _, f := range samples(t) {
		for _, g := range alteredWithin(f) {
			want := valid(g)
			wantValid(t, g, want)
			count[want]++
		}
	}
	if count[true] < 1000 || count[false] < 1000 {
		t.Errorf("only %v", count)
	}
}

func TestValidUnusedFields(t *testing.T) {
	kid := []api.Formula{and()}
	for _, f := range []api.Formula{
		{Kind: api.FRel, Name: "R", Arity: 1, Args: []string{"x"}},
		{Kind: api.FRel, Name: "R", Vars: []string{"x"}},
		{Kind: api.FRel, Name: "R", Kids: kid},
		{Kind: api.FEq, Name: "R", Args: []string{"x", "y"}},
		{Kind: api.FEq, Arity: 2, Args: []string{"x", "y"}},
		{Kind: api.FLess, Vars: []string{"x"}, Args: []string{"x", "y"}},
		{Kind: api.FLess, Kids: kid, Args: []string{"x", "y"}},
		{Kind: api.FNot, Name: "R", Kids: kid},
		{Kind: api.FNot, Args: []string{"x"}, Kids: kid},
		{Kind: api.FNot, Vars: []string{"x"}, Kids: kid},
		{Kind: api.FAnd, Arity: 1},
		{Kind: api.FAnd, Name: "R"},
		{Kind: api.FOr, Vars: []string{"x"}},
		{Kind: api.FOr, Args: []string{"x"}},
		{Kind: api.FSome, Name: "R", Vars: []string{"x"}, Kids: kid},
		{Kind: api.FSome, Args: []string{"x"}, Vars: []string{"x"}, Kids: kid},
		{Kind: api.FAll, Arity: -1, Vars: []string{"x"}, Kids: kid},
		{Kind: api.FLfp, Arity: 1, Name: "R", Vars: []string{"x"}, Args: []string{"x"}, Kids: kid},
		{Kind: api.FPfp, Arity: 1, Name: "R", Vars: []string{"x"}, Args: []string{"x"}, Kids: kid},
		{Kind: api.FTc, Name: "R", Vars: []string{"x", "y"}, Args: []string{"x", "y"}, Kids: kid},
		{Kind: api.FTc, Arity: 2, Vars: []string{"x", "y"}, Args: []string{"x", "y"}, Kids: kid},
		{Kind: api.FSecond, Name: "R", Vars: []string{"x"}, Kids: kid},
		{Kind: api.FSecond, Name: "R", Args: []string{"x"}, Kids: kid},
		{Kind: api.FSecond, Name: "R", Arity: 1, Vars: []string{"x"}, Args: []string{"x"}, Kids: kid},
	} {
		wantValid(t, f, false)
		wantValid(t, and(and(), f), false)
	}
}

func TestValidArity(t *testing.T) {
	for n := range 15 {
		wantValid(t, rel("R", numbered("x", n)), n <= 12)
		wantValid(t, rel("R", strings.Repeat("x ", n)), n <= 12)
		wantValid(t, some(numbered("x", n), and()), 1 <= n && n <= 12)
		wantValid(t, all(numbered("x", n), and()), 1 <= n && n <= 12)
		wantValid(t, lfp("R", numbered("x", n), and(), strings.Repeat("x ", n)), 1 <= n && n <= 12)
		wantValid(t, pfp("R", numbered("x", n), and(), numbered("y", n)), 1 <= n && n <= 12)
		wantValid(t, exists("R", n, and()), n <= 12)
		wantValid(t, exists("R", -n, and()), n == 0)
		for k := range 15 {
			wantValid(t, lfp("R", numbered("x", n), and(), numbered("y", k)), n == k && 1 <= n && n <= 12)
			wantValid(t, pfp("R", numbered("x", n), and(), numbered("y", k)), n == k && 1 <= n && n <= 12)
		}
	}
	for n := range 29 {
		for k := range 29 {
			wantValid(t, tc(numbered("x", n), and(), numbered("y", k)), n == k && n%2 == 0 && 2 <= n && n <= 24)
		}
	}
	for _, n := range []int{1, 2, 3, 11, 12} {
		vars := numbered("x", n-1) + " x0"
		wantValid(t, some(vars, and()), n == 1)
		wantValid(t, lfp("R", vars, and(), vars), n == 1)
		wantValid(t, tc(vars+" y "+numbered("z", n-1), and(), numbered("a", 2*n)), n == 1)
	}
}

func TestValidSize(t *testing.T) {
	for _, n := range []int{1, 2, 3999, 4000} {
		wantValid(t, wide(n), true)
		if got := formula.Size(wide(n)); got != n {
			t.Errorf("the size is %d instead of %d", got, n)
		}
	}
	for _, n := range []int{4001, 4002, 100000} {
		wantValid(t, wide(n), false)
	}
	wantValid(t, and(wide(2000), wide(1999)), true)
	wantValid(t, and(wide(2000), wide(2000)), false)
	wantValid(t, not(wide(4000)), false)
}

func TestValidDepth(t *testing.T) {
	for _, n := range []int{1, 2, 59, 60} {
		wantValid(t, nested(n), true)
		if got := formula.Depth(nested(n)); got != n {
			t.Errorf("the depth is %d instead of %d", got, n)
		}
	}
	for _, n := range []int{61, 62, 1000} {
		wantValid(t, nested(n), false)
	}
	wantValid(t, and(and(), nested(59), and()), true)
	wantValid(t, and(and(), nested(60), and()), false)
	for _, around := range []func(f api.Formula) api.Formula{
		not,
		func(f api.Formula) api.Formula { return some("x", f) },
		func(f api.Formula) api.Formula { return lfp("R", "x", f, "x") },
		func(f api.Formula) api.Formula { return tc("x y", f, "x y") },
		func(f api.Formula) api.Formula { return exists("R", 1, f) },
	} {
		wantValid(t, around(nested(59)), true)
		wantValid(t, around(nested(60)), false)
	}
}

func TestValidBoundNames(t *testing.T) {
	cases := []struct {
		f    api.Formula
		want bool
	}{
		{exists("R", 1, rel("R", "x")), true},
		{exists("R", 1, rel("R", "x y")), false},
		{exists("R", 1, rel("R", "")), false},
		{exists("R", 0, rel("R", "")), true},
		{exists("R", 2, and(rel("R", "x x"), not(rel("R", "x")))), false},
		{exists("R", 2, rel("S", "x")), true},
		{lfp("R", "x", rel("R", "x"), "x"), true},
		{lfp("R", "x", rel("R", "x x"), "x"), false},
		{lfp("R", "x y", rel("R", "x"), "x x"), false},
		{pfp("R", "x y", rel("R", "x y"), "x x"), true},
		{pfp("R", "x y", rel("R", "x"), "x x"), false},
		// A name that is bound again has the arity of the innermost formula that binds it.
		{exists("R", 1, exists("R", 2, rel("R", "x x"))), true},
		{exists("R", 1, exists("R", 2, rel("R", "x"))), false},
		{exists("R", 1, and(rel("R", "x"), exists("R", 2, rel("R", "x x")), rel("R", "x"))), true},
		{exists("R", 1, and(exists("R", 2, rel("R", "x x")), rel("R", "x x"))), false},
		{lfp("R", "x", pfp("R", "x y", not(rel("R", "x y")), "x x"), "x"), true},
		{lfp("R", "x", pfp("R", "x y", not(rel("R", "x")), "x x"), "x"), false},
		// A name that is bound and also occurs unbound may have another arity there.
		{and(rel("R", ""), exists("R", 1, rel("R", "x")), rel("R", "")), true},
		{and(exists("R", 1, rel("R", "x")), rel("R", "")), true},
		{and(exists("R", 1, rel("R", "x")), rel("R", ""), rel("R", "x")), false},
		{and(rel("R", "x"), lfp("R", "x y", rel("R", "x y"), "x x")), true},
		{and(rel("R", "x"), lfp("R", "x y", rel("R", "x"), "x x")), false},
		{and(rel("R", "x"), rel("R", "x")), true},
		{and(rel("R", "x"), rel("R", "x x")), false},
		{or(rel("R", "x"), some("x", not(rel("R", "")))), false},
		{and(exists("S", 1, rel("R", "x")), rel("R", "x x")), false},
		{exists("S", 1, lfp("R", "x", and(rel("S", "x"), rel("P", "x")), "y")), true},
		{exists("S", 1, lfp("R", "x", and(rel("S", "x y"), rel("P", "x")), "y")), false},
		// Names of variables are not those of relations.
		{some("R", rel("R", "R")), true},
		{and(rel("x", "x"), some("x", rel("x", "x"))), true},
		{and(rel("x", "x"), some("x", rel("x", "x x"))), false},
	}
	for _, c := range cases {
		wantValid(t, c.f, c.want)
		wantValid(t, not(c.f), c.want)
	}
}

func TestValidPositive(t *testing.T) {
	r := rel("R", "x")
	cases := []struct {
		kid  api.Formula
		want bool
	}{
		{r, true},
		{not(r), false},
		{not(not(r)), true},
		{not(not(not(r))), false},
		{and(r, not(r)), false},
		{and(not(r), r), false},
		{not(and(r, not(r))), false},
		{not(some("x", all("y", or(not(r), rel("S", "x"))))), true},
		{not(rel("S", "x")), true},
		{tc("y z", r, "x x"), true},
		{tc("y z", not(r), "x x"), false},
		{exists("S", 1, not(not(r))), true},
		{exists("S", 1, not(r)), false},
		{pfp("S", "x", r, "x"), false},
		{pfp("S", "x", not(not(r)), "x"), false},
		{not(pfp("S", "x", not(r), "x")), false},
		{pfp("S", "x", rel("S", "x"), "x"), true},
		{lfp("S", "x", and(r, rel("S", "x")), "x"), true},
		{lfp("S", "x", not(r), "x"), false},
		{not(lfp("S", "x", not(r), "x")), true},
		{not(lfp("S", "x", r, "x")), false},
		// R is bound again: these are no occurrences of the outer one.
		{pfp("R", "x", not(r), "x"), true},
		{not(exists("R", 1, r)), true},
		{exists("R", 1, and(r, not(r))), true},
		{not(lfp("R", "x", r, "x")), true},
		{and(not(exists("R", 1, r)), r), true},
		{and(not(exists("R", 1, r)), not(r)), false},
		{and(pfp("S", "x", pfp("R", "x", r, "x"), "x"), r), true},
	}
	for _, c := range cases {
		wantValid(t, lfp("R", "x", c.kid, "a"), c.want)
		wantValid(t, not(lfp("R", "x", c.kid, "a")), c.want)
		wantValid(t, pfp("Q", "x", lfp("R", "x", c.kid, "a"), "a"), c.want)
		wantValid(t, pfp("R", "x", c.kid, "a"), true)
		wantValid(t, exists("R", 1, c.kid), true)
		wantValid(t, c.kid, true)
	}
	wantValid(t, lfp("R", "x", not(lfp("S", "x", and(rel("S", "x"), rel("R", "x")), "x")), "a"), false)
	wantValid(t, lfp("R", "x", lfp("S", "x", not(rel("S", "x")), "x"), "a"), false)
	wantValid(t, not(lfp("R", "x", lfp("S", "x", pfp("T", "x", rel("S", "x"), "x"), "x"), "a")), false)
}

// TestValidAtRandom compares with the definitions, each taken for itself.
func TestValidAtRandom(t *testing.T) {
	count := map[bool]int{}
	for _, f := range randomFormulas(1, 20000) {
		want := valid(f)
		wantValid(t, f, want)
		count[want]++
	}
	if count[true] < 5000 || count[false] < 1000 {
		t.Errorf("only %v", count)
	}
}

// TestLargeArguments is rule R1 for arguments that are far past the limits.
func TestLargeArguments(t *testing.T) {
	for i, f := range large() {
		if formula.Valid(f) {
			t.Errorf("the large formula %d is valid", i)
		}
		if text, e := formula.Text(f); text != "" || e != api.ErrForm {
			t.Errorf("the text of the large formula %d is %q, error %d", i, text, e)
		}
		if is, e := formula.Positive(f, "R"); is || e != api.ErrForm {
			t.Errorf("Positive of the large formula %d is %v, error %d", i, is, e)
		}
		if free, symbols := formula.Free(f), formula.Symbols(f); free != nil || symbols != nil {
			t.Errorf("the large formula %d has %v and %v", i, free, symbols)
		}
		if size, depth := formula.Size(f), formula.Depth(f); size != 0 || depth != 0 {
			t.Errorf("the large formula %d has the size %d and the depth %d", i, size, depth)
		}
		if !formula.Same(f, f) || formula.Same(f, and()) || formula.Same(rel("R", ""), f) {
			t.Errorf("the large formula %d is not the same as itself only", i)
		}
	}
}

// large lists formulas that are very long, very deep, or that contain one another.
func large() []api.Formula {
	const n = 1 << 17
	long := strings.Repeat("x", n)
	names := strings.Repeat("x ", n)
	doubled := rel("R", "x")
	for range 500 {
		doubled = and(doubled, doubled)
	}
	loop := make([]api.Formula, 2)
	loop[0] = api.Formula{Kind: api.FAnd, Kids: loop}
	loop[1] = api.Formula{Kind: api.FNot, Kids: loop[:1]}
	return []api.Formula{
		nested(n), wide(n), doubled, loop[0], loop[1],
		rel(long, ""), rel("R", long), rel("R", names), eq(long, long),
		{Kind: api.FEq, Args: strings.Fields(names)},
		some(names, and()), some(numbered("x", n), and()), all(long, and()),
		lfp("R", numbered("x", n), and(), numbered("x", n)), pfp(long, "x", and(), "x"),
		tc(numbered("x", n), and(), numbered("x", n)), exists(long, 1, and()),
		{Kind: api.FNot, Kids: wide(n).Kids},
		{Kind: api.FRel, Name: "R", Kids: loop},
		{Kind: math.MaxInt, Kids: loop},
	}
}

func TestSameOfSeparateLargeArguments(t *testing.T) {
	a, b := large(), large()
	for i := range a {
		for k := range b {
			// Both loops are built alike and differ from each other in their outermost kinds.
			if formula.Same(a[i], b[k]) != (i == k) {
				t.Errorf("Same of the large formulas %d and %d is %v", i, k, i != k)
			}
		}
	}
	twice := func(names string) api.Formula {
		f := eq("x", "y")
		for i, name := range strings.Fields(names) {
			f = some(name, and(f, f, eq("x", "x"+strconv.Itoa(i))))
		}
		return f
	}
	if !formula.Same(twice(numbered("x", 300)), twice(numbered("x", 300))) {
		t.Errorf("two formulas that are built alike are not the same")
	}
	if formula.Same(twice(numbered("x", 300)), twice("y "+numbered("x", 300))) || formula.Same(twice("y "+numbered("x", 99)), twice("z "+numbered("x", 99))) {
		t.Errorf("two formulas that are built otherwise are the same")
	}
}
