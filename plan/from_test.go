package plan_test

import (
	"slices"
	"strings"
	"testing"

	"paraphrast/api"
	"paraphrast/formula"
	"paraphrast/plan"
	"paraphrast/shape"
)

// from returns the plan of a formula that must have one.
func from(t *testing.T, f api.Formula, vars []string) api.Plan {
	t.Helper()
	p, e := plan.From(f, vars)
	if e != api.OK || plan.Width(p) != len(vars) {
		t.Fatalf("From(%s, %q) is %s, error %d", write(f), vars, show(p), e)
	}
	return p
}

func wantFromError(t *testing.T, f api.Formula, vars []string, want api.Errno) {
	t.Helper()
	p, e := plan.From(f, vars)
	wantError(t, "From of "+write(f), zeroPlan(p), e, want)
}

// wantFrom fails unless the plan of f has the result of f in some structures.
func wantFrom(t *testing.T, f api.Formula, vars []string, structures []api.Structure) {
	t.Helper()
	p := from(t, f, vars)
	for _, s := range structures {
		want, ok := query(t, f, s, vars)
		if l := run(t, p, s); ok && !equalTuples(l, want) {
			t.Errorf("in %v, %s holds for %v, but %s for %v", s, write(f), want, show(p), l)
			return
		}
	}
}

func TestFrom(t *testing.T) {
	m := newMaker(4)
	var structures []api.Structure
	for range 4 {
		structures = append(structures, m.structure(1), m.structure(2), m.structure(3))
	}
	for _, c := range []struct{ text, vars string }{
		{"true", ""},
		{"false", ""},
		{"true", "x y"},
		{"false", "x y"},
		{"Q()", ""},
		{"Q()", "x"},
		{"not(Q())", "x y"},
		{"P(x)", "x"},
		{"P(y)", "x y z"},
		{"E(x y)", "x y"},
		{"E(x y)", "y x"},
		{"E(x y)", "z y u x"},
		{"E(x x)", "x"},
		{"E(x x)", "y x"},
		{"T(x y x)", "y x"},
		{"T(y y y)", "x y"},
		{"T(z x z)", "x y z"},
		{"x = y", "x y"},
		{"x = x", "x"},
		{"x < y", "x y"},
		{"x < y", "y x"},
		{"x < x", "x"},
		{"y = z", "x y z"},
		{"not(not(P(x)))", "x"},
		{"not(not(not(E(x y))))", "x y"},
		{"and(P(x))", "x"},
		{"or(P(x))", "x"},
		{"and(P(x), E(x y))", "x y"},
		{"and(P(x), not(P(y)), E(x y))", "x y"},
		{"and(not(P(x)), P(y))", "x y"},
		{"and(true, P(x))", "x"},
		{"and(not(true), P(x))", "x"},
		{"not(or(P(x), false))", "x"},
		{"or(P(x), E(x y), y < x)", "x y"},
		{"or(false, not(P(x)))", "x"},
		{"some(x: P(x))", ""},
		{"all(x: P(x))", ""},
		{"some(x: P(y))", "y"},
		{"all(x: P(y))", "y"},
		{"some(y: E(x y))", "x"},
		{"all(y: not(E(x y)))", "x"},
		{"some(y z: and(E(x y), E(y z)))", "x"},
		{"some(z y: and(E(x y), y < z))", "x"},
		{"all(y: some(z: T(x y z)))", "x"},
		{"some(y: all(z: or(E(y z), z = x)))", "x"},
		{"some(x: and(P(x), some(x: E(x x))))", ""},
		{"some(x: P(x))", "x"},
		{"and(P(x), some(x: E(x y)))", "x y"},
		{"some(x: some(x: all(y: E(x y))))", "y x"},
		{"some(x y: true)", "z"},
		{"all(x: false)", ""},
		{"all(P: P(P))", "E"},
	} {
		wantFrom(t, parse(t, c.text), names(c.vars), structures)
	}
}

// TestFromAtRandom is promise P5.1 for From.
func TestFromAtRandom(t *testing.T) {
	m := newMaker(5)
	made := 0
	for range 2500 {
		f := m.formula(1+m.Intn(6), "x y z")
		structures := []api.Structure{m.structure(1), m.structure(2), m.structure(1 + m.Intn(3))}
		vars := names("x y z u")
		m.Shuffle(4, func(i, j int) { vars[i], vars[j] = vars[j], vars[i] })
		if _, e := plan.From(f, vars); e == api.ErrSize {
			continue
		}
		if _, e := plan.Run(from(t, f, vars), structures[2]); e == api.OK {
			made++
			wantFrom(t, f, vars, structures[:2])
			wantFrom(t, f, vars, structures[2:])
		}
	}
	if made < 500 {
		t.Errorf("only %d plans", made)
	}
}

// TestFromVars is that vars need not be variables: they are only different.
func TestFromVars(t *testing.T) {
	s := structure(t, "2; P/1 1")
	p := from(t, parse(t, "P(x)"), []string{"", "x", "not", "\xff y"})
	want := value(join(all(1), join(rel("P", 1), all(2))), s)
	if l := run(t, p, s); !equalTuples(l, want) {
		t.Errorf("with odd variables, P(x) holds for %v", l)
	}
}

func TestFromErrors(t *testing.T) {
	x := []string{"x"}
	for _, f := range []api.Formula{{}, {Kind: api.FNot}, {Kind: api.FKinds}, {Kind: -1}} {
		wantFromError(t, f, x, api.ErrForm)
		wantFromError(t, f, names("x x"), api.ErrForm)
	}
	for _, text := range []string{"lfp(R x: R(x))(x)", "pfp(R x: P(x))(x)", "tc(x y: E(x y))(x x)", "exists(R 1: R(x))", "and(P(x), not(some(y: lfp(R x: R(x))(y))))", "or(tc(x y: true)(x x))"} {
		wantFromError(t, parse(t, text), x, api.ErrArg)
	}
	wantFromError(t, parse(t, "P(x)"), nil, api.ErrArg)
	wantFromError(t, parse(t, "P(x)"), names("y"), api.ErrArg)
	wantFromError(t, parse(t, "P(x)"), names("x x"), api.ErrArg)
	wantFromError(t, parse(t, "P(x)"), names("y x y"), api.ErrArg)
	wantFromError(t, parse(t, "true"), []string{"", ""}, api.ErrArg)
	wantFromError(t, parse(t, "and(some(x: P(x)), P(x))"), nil, api.ErrArg)
	wantFromError(t, parse(t, "true"), numbered("x", 13), api.ErrArg)
	wantFromError(t, parse(t, "E(x y)"), x, api.ErrArg)
}

// repeat returns n copies of f.
func repeat(n int, f api.Formula) []api.Formula {
	var l []api.Formula
	for range n {
		l = append(l, f)
	}
	return l
}

func TestFromSizes(t *testing.T) {
	vars := numbered("x", 12)
	from(t, parse(t, "true"), vars)
	from(t, parse(t, "some(a: P(a))"), vars[:11])
	wantFromError(t, parse(t, "some(a: P(a))"), vars, api.ErrSize)
	wantFromError(t, parse(t, "all(x1: P(x1))"), vars, api.ErrSize)
	twelve := "some(a b c d e f: all(a b c: P(a)))"
	from(t, parse(t, "and("+twelve+", all(x y z: E(x y)))"), nil)
	wantFromError(t, parse(t, "and("+twelve+", all(x y z: E(x y)))"), vars[:1], api.ErrSize)
	wantFromError(t, parse(t, "and("+twelve+", "+twelve+")"), nil, api.ErrSize)
	wantFromError(t, parse(t, "or(some(a: P(a)), some(a: P(a)))"), vars[:11], api.ErrSize)
	from(t, parse(t, "or(some(a: P(a)), some(a: P(a)))"), vars[:10])
	wide := api.Formula{Kind: api.FAnd, Kids: repeat(199, parse(t, "P(x)"))}
	from(t, wide, names("x"))
	wide.Kids = append(wide.Kids, parse(t, "P(x)"))
	wantFromError(t, wide, names("x"), api.ErrSize)
}

// TestFromIsValid has formulas within the limits of From whose plans are as large, deep and wide as possible.
func TestFromIsValid(t *testing.T) {
	x := parse(t, "T(x x x x x x x x x x x x)")
	s := structure(t, "2; T/12 1,1,1,1,1,1,1,1,1,1,1,1; S/1 0")
	for _, kind := range []int{api.FAnd, api.FOr} {
		p := from(t, api.Formula{Kind: kind, Kids: repeat(199, x)}, names("y x"))
		wantRun(t, p, s, []int{0, 1}, []int{1, 1})
	}
	nots := parse(t, strings.Repeat("not(", 59)+"S(x)"+strings.Repeat(")", 59))
	wantRun(t, from(t, nots, names("x")), s, []int{1})
	f := x
	for i := range 59 {
		f = api.Formula{Kind: []int{api.FAnd, api.FOr, api.FNot}[i%3], Kids: []api.Formula{f}}
		if i%3 < 2 {
			f.Kids = append(f.Kids, x, parse(t, "S(x)"))
		}
	}
	wantFrom(t, f, names("y x"), []api.Structure{s})
	f = parse(t, "S(y)")
	for range 11 {
		f = api.Formula{Kind: api.FAll, Vars: names("y"), Kids: []api.Formula{{Kind: api.FOr, Kids: []api.Formula{x, f}}}}
	}
	wantFrom(t, f, names("x"), []api.Structure{s})
	turned := parse(t, "all(a b c d e f g h i j k l: or(not(T(l k j i h g f e d c b a)), T(a b c d e f g h i j k l)))")
	wantRun(t, from(t, turned, nil), s, []int{})
}

// TestFromRuns is that Run of the plan fails only if there are too many values of all variables: that it needs no other relations and no wider ones.
func TestFromRuns(t *testing.T) {
	for _, c := range []struct {
		text, vars string
		size       int
	}{
		{"and(E(x y), E(y x), not(E(x x)))", "x y", 64},
		{"some(y: and(E(x y), P(y)))", "x", 64},
		{"T(x x x)", "x", 16},
		{"and(T(x x x), P(x))", "x", 16},
		{"all(z: or(T(x y z), E(x y), not(E(y z)), z < x))", "x y", 16},
		{"some(x y z: and(E(x y), E(y z), E(z x), P(x), P(y)))", "u", 8},
		{"and(E(x y), E(z u), E(x z), E(y u))", "x y z u", 8},
		{"and(some(y: and(E(x y), all(y: E(y x)))), some(y: P(y)), some(z: E(z z)))", "x", 5},
		{"some(a b c d e f: all(g h i j k l: or(and(P(a), P(g)), E(a l), T(b c d), T(e f g), and(E(h i), E(j k)))))", "", 2},
	} {
		f := parse(t, c.text)
		s, e := shape.Make(c.size, formula.Symbols(f))
		if e != api.OK {
			t.Fatal(c.text, c.size, e)
		}
		p := from(t, f, names(c.vars))
		l, e := plan.Run(p, s)
		if want, ok := query(t, f, s, names(c.vars)); e != api.OK || ok && !equalTuples(l, want) {
			t.Errorf("for %d elements, the plan of %s is error %d, %v", c.size, c.text, e, l)
		}
		for _, q := range parts(p) {
			if q.Kind == api.PRel && !slices.Contains(formula.Symbols(f), api.Symbol{Name: q.Name, Arity: q.Width}) {
				t.Errorf("the plan of %s has the relation %s", c.text, show(q))
			}
		}
	}
}
