package fix_test

import (
	"slices"
	"strings"
	"testing"

	"paraphrast/api"
	"paraphrast/fix"
	"paraphrast/formula"
)

// one returns a formula for a relation of a system that must have one.
func one(t *testing.T, defs []api.Def, i int) api.Formula {
	t.Helper()
	f, e := fix.One(defs, i)
	if e != api.OK {
		t.Fatalf("One(%s, %d) is error %d", writeDefs(defs), i, e)
	}
	return f
}

// wantOne fails unless One makes of each relation of a system a formula as its section says. It returns how many times the meaning could be compared.
func wantOne(t *testing.T, defs []api.Def, structures ...api.Structure) int {
	t.Helper()
	compared := 0
	var bodies []api.Formula
	for _, d := range defs {
		bodies = append(bodies, d.Body)
	}
	for i, d := range defs {
		f := one(t, defs, i)
		if !formula.Valid(f) || fixed(f) != fixed(bodies...)+1 || !slices.Equal(formula.Symbols(f), symbolsOf(defs)) {
			t.Errorf("One(%s, %d) is %s, with %d FLfp and the symbols %v", writeDefs(defs), i, write(f), fixed(f), formula.Symbols(f))
			continue
		}
		for _, v := range formula.Free(f) {
			if !slices.Contains(d.Vars, v) {
				t.Errorf("One(%s, %d) is %s, in which %s is free", writeDefs(defs), i, write(f), v)
			}
		}
		for _, s := range structures {
			rels, e := fix.Solve(defs, s)
			if e != api.OK && e != api.ErrSize {
				t.Errorf("Solve(%s, %v) is error %d", writeDefs(defs), s, e)
			}
			l, ok := query(t, f, s, d.Vars)
			if !ok || e != api.OK {
				continue
			}
			compared++
			if !equalTuples(l, rels[i].Tuples) {
				t.Errorf("in %v, relation %d of %s is %v, but %s holds for %v", s, i, writeDefs(defs), rels[i].Tuples, write(f), l)
			}
		}
	}
	return compared
}

// symbolsOf lists the symbols of a system, rising by name.
func symbolsOf(defs []api.Def) []api.Symbol {
	var l []api.Symbol
	for _, d := range defs {
		for _, x := range formula.Symbols(d.Body) {
			if !slices.ContainsFunc(defs, func(d api.Def) bool { return d.Name == x.Name }) {
				l = append(l, x)
			}
		}
	}
	slices.SortFunc(l, func(a, b api.Symbol) int { return strings.Compare(a.Name, b.Name) })
	return slices.Compact(l)
}

// arity returns the number of places of the relation that One makes of a system.
func arity(t *testing.T, defs []api.Def) int {
	t.Helper()
	n := -1
	for i := range defs {
		f := one(t, defs, i)
		if f.Kind != api.FLfp || n >= 0 && n != len(f.Vars) {
			t.Errorf("One(%s, %d) is %s", writeDefs(defs), i, write(f))
		}
		n = len(f.Vars)
	}
	return n
}

func TestOne(t *testing.T) {
	s := structure(t, "3; E/2 0,1 1,2; P/1 2; Q/0; R1/1 0")
	for _, texts := range [][]string{
		{ways},
		{even, odd},
		{odd, even},
		{even, ways, odd},
		{"R x: true"},
		{"R x: false", "S x: true"},
		{"R x: P(x)", "S x: R(x)", "T x: S(x)"},
		{"R x y z: or(S(x y), T(z))", "S x y: or(E(x y), S(y x))", "T x: P(x)"},
		{"T x: P(x)", "S x y: or(E(x y), S(y x))", "R x y z: or(S(x y), T(z))"},
		{"T z: some(x y: R(x y z))", "R x y z: or(and(E(x y), P(z)), and(T(x), E(y z)))"},
		// Names that the program may have thought of.
		{"R x1: or(R1(x1), some(y1: and(R(y1), E(y1 x1))))", "R2 y1: or(R(y1), some(x1: all(x2: or(R2(x1), x2 < y1))))"},
		{"A x: or(P(x), some(y: and(A(y), E(y x))))", "R1 x: P(x)"},
		{"R1 x: P(x)", "A x: or(P(x), some(y: and(A(y), E(y x))))"},
		{"x1 x1: or(P(x1), some(R1: and(y1(R1), E(x1 R1))))", "y1 y1: some(x2: or(x1(x2), R1(y1)))"},
		// Variables that the definitions share, in other places.
		{"A x y: or(E(x y), B(y x))", "B y x: or(A(y x), C(x))", "C y: some(x: A(x y))"},
		{"A x y: B(y y)", "B y z: or(y = z, A(z y))"},
		// Names of the system that are bound within a Body.
		{"A x: or(P(x), lfp(B y: or(A(y), some(z: and(B(z), E(z y)))))(x))", "B x: lfp(A y: or(B(y), E(y y)))(x)"},
		{"A x: exists(B 1: and(A(x), B(x)))", "B x: or(pfp(A y: not(A(y)))(x), P(x))"},
		{"A x: or(P(x), tc(y x: or(E(y x), B(x y)))(x x))", "B x y: lfp(A z: or(A(z), P(z), B(z y)))(x)"},
		// Relations that nothing asks for.
		{"A x: P(x)", "B x y: lfp(C z: E(z y))(x)"},
		{"A x: P(x)", "B x: Q()", "C x y: R1(y)", "D x: B(x)"},
	} {
		wantOne(t, system(t, texts...), s, structure(t, "2; E/2 1,0 1,1; P/1 0; Q/0 (); R1/1 1"))
	}
}

// TestEvenAndOdd is the second example of the chapter.
func TestEvenAndOdd(t *testing.T) {
	s := path(9)
	for i, want := range []string{"0 2 4 6 8", "1 3 5 7"} {
		if l, ok := query(t, one(t, system(t, even, odd), i), s, names("x")); !ok || writeTuples(l) != want {
			t.Errorf("formula %d holds for %v", i, l)
		}
	}
}

// TestOneAtRandom is promise P6.3 for One.
func TestOneAtRandom(t *testing.T) {
	m := newMaker(5)
	compared := 0
	for range 500 {
		compared += wantOne(t, m.system(4, 2), m.structure(2), m.structure(3))
	}
	for range 60 {
		compared += wantOne(t, m.system(8, 1), m.structure(2), m.structure(3))
	}
	for range 60 {
		compared += wantOne(t, m.system(3, 3), m.structure(2))
	}
	if compared < 2000 {
		t.Errorf("only %d relations were compared", compared)
	}
}

// numbers returns a system with definitions of these numbers of variables, each of which asks for all relations.
func numbers(t *testing.T, counts ...int) []api.Def {
	var defs []api.Def
	var uses []api.Formula
	for i, n := range counts {
		name := "D" + string(rune('0'+i))
		uses = append(uses, rel(name, strings.Repeat("x0 ", n)))
		defs = append(defs, api.Def{Name: name, Vars: numbered("x", n)})
	}
	for i := range defs {
		defs[i].Body = or(append([]api.Formula{parse(t, "all(z: not(z < x0))")}, uses...)...)
	}
	return defs
}

// TestOneArity is that a system has a formula whenever twelve places suffice for it: with two elements, the tuples of all of its relations are as many as those of twelve places.
func TestOneArity(t *testing.T) {
	for _, c := range []struct {
		counts []int
		want   int
	}{
		{[]int{1}, 1},
		{[]int{12}, 12},
		{[]int{1, 1}, 2},
		{[]int{1, 1, 1}, 3},
		{[]int{1, 1, 1, 1}, 3},
		{[]int{1, 1, 1, 1, 1}, 4},
		{[]int{1, 1, 1, 1, 1, 1, 1, 1}, 4},
		{[]int{2, 1}, 3},
		{[]int{2, 1, 1}, 3},
		{[]int{1, 2, 1}, 3},
		{[]int{1, 1, 2, 2}, 4},
		{[]int{1, 3, 2, 1}, 4},
		{[]int{3, 3, 3, 3}, 5},
		{[]int{3, 3, 3, 3, 1}, 6},
		{[]int{11, 11}, 12},
		{[]int{11, 10, 10}, 12},
		{[]int{10, 1, 10, 11}, 0},
		{[]int{9, 9, 9, 9, 9, 9, 9, 9}, 12},
		{[]int{9, 9, 9, 9, 9, 9, 9, 10}, 0},
		{[]int{11, 5, 6, 7, 8, 9, 10, 5}, 12},
		{[]int{12, 1}, 0},
		{[]int{1, 12}, 0},
		{[]int{12, 12, 12, 12, 12, 12, 12, 12}, 0},
	} {
		defs := numbers(t, c.counts...)
		if c.want == 0 {
			for i := range defs {
				wantOneError(t, defs, i, api.ErrSize)
			}
			continue
		}
		if n := arity(t, defs); n != c.want {
			t.Errorf("definitions of %v variables have a relation of %d places instead of %d", c.counts, n, c.want)
		}
	}
	wantOne(t, numbers(t, 1, 2, 3, 1), structure(t, "2"), structure(t, "3"))
	wantOne(t, numbers(t, 4, 1, 1, 3, 2, 2), structure(t, "2"))
	wantOne(t, numbers(t, 1, 1, 1, 1, 1, 1, 1, 1), structure(t, "2"), structure(t, "4"))
}

// TestOneLimits has systems for which there is no ErrSize, and some for which there is.
func TestOneLimits(t *testing.T) {
	var defs []api.Def
	for i := range 4 {
		var uses []api.Formula
		for j := range 31 {
			uses = append(uses, rel("D"+string(rune('0'+(i+j)%4)), "x y z"))
		}
		body := deep(7, or(append(uses, rel("P", "x"))...))
		defs = append(defs, api.Def{Name: "D" + string(rune('0'+i)), Vars: names("x y z"), Body: body})
		if formula.Size(body) != 40 || formula.Depth(body) != 9 {
			t.Fatalf("the body has %d formulas in %d levels", formula.Size(body), formula.Depth(body))
		}
	}
	defs[3].Body = deep(9, rel("D0", "x x x"))
	wantOne(t, defs, structure(t, "2; P/1 1"))

	// A Body that is as deep, or as large, as a formula may be.
	d := def(t, "R x: R(x)")
	d.Body = deep(58, d.Body)
	wantOne(t, []api.Def{d}, structure(t, "2"))
	d.Body = deep(59, rel("R", "x"))
	wantOneError(t, []api.Def{d}, 0, api.ErrSize)
	wantOneError(t, []api.Def{def(t, "S x: S(x)"), d}, 0, api.ErrSize)
	d.Body = or(repeat(3998, rel("R", "x"))...)
	wantOne(t, []api.Def{d}, structure(t, "2"))
	d.Body = or(repeat(3999, rel("R", "x"))...)
	wantOneError(t, []api.Def{d}, 0, api.ErrSize)
	d.Body = or(repeat(2000, rel("R", "x"))...)
	other := def(t, "S x: S(x)")
	other.Body = or(repeat(2000, rel("S", "x"))...)
	for i := range 2 {
		wantOneError(t, []api.Def{d, other}, i, api.ErrSize)
	}
}

func TestOneErrors(t *testing.T) {
	defs := system(t, even, odd)
	for _, i := range []int{-1, 2, 3, 8, -1 << 63, 1<<63 - 1} {
		wantOneError(t, defs, i, api.ErrArg)
	}
	for _, defs := range broken(t) {
		for _, i := range []int{0, -1, 100} {
			wantOneError(t, defs, i, api.ErrForm)
		}
	}
}
