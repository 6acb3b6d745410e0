package rules_test

import (
	"slices"
	"strconv"
	"strings"
	"testing"

	"paraphrast/api"
	"paraphrast/formula"
	"paraphrast/rules"
)

// from returns the program of a formula, which must have one with the right names.
func from(t *testing.T, f api.Formula, vars []string) ([]api.Rule, string) {
	t.Helper()
	l, name, e := rules.From(f, vars)
	if e != api.OK || !rules.Valid(l) || !slices.Contains(defined(l), name) || arity(l, name) != len(vars) {
		t.Fatalf("From(%s, %q) is %s with %q, error %d", writeFormula(f), vars, write(l), name, e)
	}
	symbols := formula.Symbols(f)
	for _, r := range l {
		for _, c := range r.Body {
			x := api.Symbol{Name: c.Name, Arity: len(c.Args)}
			if c.Kind == api.FRel && !slices.Contains(defined(l), c.Name) && !slices.Contains(symbols, x) {
				t.Errorf("From(%s, %q) is %s, with another symbol", writeFormula(f), vars, write(l))
			}
		}
	}
	for _, x := range symbols {
		if slices.Contains(defined(l), x.Name) {
			t.Errorf("From(%s, %q) is %s, with a symbol that is defined", writeFormula(f), vars, write(l))
		}
	}
	return l, name
}

// checkFrom compares the program of a formula with its Query. It reports false if one of them is too large.
func checkFrom(t *testing.T, f api.Formula, vars []string, s api.Structure) bool {
	t.Helper()
	l, name := from(t, f, vars)
	want, ok := query(t, f, s, vars)
	got, e := rules.Run(l, s)
	if !ok || e == api.ErrSize {
		return false
	}
	if e != api.OK {
		t.Fatalf("Run(%s, %s) for %s is error %d", write(l), writeStructure(s), writeFormula(f), e)
	}
	if r := relation(t, got, name); !equalTuples(r, want) {
		t.Errorf("From(%s, %q) is %s with %q, which in %s has %v instead of %v", writeFormula(f), vars, write(l), name, writeStructure(s), r, want)
	}
	return true
}

// TestFrom has formulas of all shapes, with the program that is made of them.
func TestFrom(t *testing.T) {
	m := newMaker(11)
	for _, c := range []struct{ formula, vars, want string }{
		{"E(x y)", "x y", "R1(v0 v1) :- E(v0 v1)."},
		{"E(x y)", "y x", "R1(v0 v1) :- E(v1 v0)."},
		{"not(E(x x))", "x", "R1(v0) :- not E(v0 v0)."},
		{"Z()", "", "R1() :- Z()."},
		{"Z()", "x", "R1(v0) :- Z()."},
		{"true", "", "R1()."},
		{"true", "x y", "R1(v0 v1)."},
		{"false", "", "R1() :- v0 < v0."},
		{"false", "x", "R1(v0) :- v1 < v1."},
		{"x = y", "x y", "R1(v0 v0)."},
		{"not(x = y)", "x y", "R1(v0 v1) :- not v0 = v1."},
		{"x < y", "x y z", "R1(v0 v1 v2) :- v0 < v1."},
		{"x < x", "x", "R1(v0) :- v1 < v1."},
		{"or(x = x, not(x < x))", "x", "R1(v0). R1(v0)."},
		{"not(x = x)", "x", "R1(v0) :- v1 < v1."},
		{"or(E(x y), E(y x))", "x y", "R1(v0 v1) :- E(v0 v1). R1(v0 v1) :- E(v1 v0)."},
		{"and(or(U(x), x(x)), or(U(y), E(x y)))", "x y", "R1(v0 v1) :- U(v0), U(v1). R1(v0 v1) :- U(v0), E(v0 v1). R1(v0 v1) :- x(v0), U(v1). R1(v0 v1) :- x(v0), E(v0 v1)."},
		{"some(z: and(E(x z), E(z y)))", "x y", "R1(v0 v1) :- E(v0 v2), E(v2 v1)."},
		{"and(some(y: E(x y)), some(y: and(y = x, E(y x), some(x: E(y x)))))", "x", "R1(v0) :- E(v0 v1), E(v0 v0), E(v0 v2)."},
		{"some(x: some(x: U(x)))", "", "R1() :- U(v0)."},
		{"lfp(R x y: or(E(x y), some(z: and(E(x z), R(z y)))))(a b)", "a b", "R1(v0 v1) :- E(v0 v1). R1(v0 v1) :- E(v0 v2), R1(v2 v1)."},
		{"lfp(R x y: or(E(x y), some(z: and(E(x z), R(z y)))))(b a)", "a b", ""},
		{"lfp(R x: or(U(x), some(y: and(R(y), E(y x)))))(a)", "a", ""},
		{"lfp(R x: and(U(x), E(x a)))(a)", "a", "R1(v0) :- U(v0), E(v0 v0)."},
		{"lfp(R x: and(U(x), R(x)))(a)", "a", "R1(v0) :- v1 < v1."},
		{"lfp(R x: or(and(U(x), R(x)), lfp(R y: R(y))(x)))(a)", "a", "R1(v0) :- v1 < v1."},
		{"lfp(R x: or(x = a, some(y: and(R(y), E(y x)))))(b)", "a b", ""},
		{"lfp(R x: or(lfp(S y: or(E(x y), E(a y), some(z: and(S(z), R(y)))))(b), some(y: and(E(x y), R(y)))))(a)", "a b", ""},
		{"lfp(R x: or(lfp(R x: or(U(x), some(y: and(E(y x), R(y)))))(x), some(y: and(R(y), E(x y)))))(y)", "y", ""},
		{"lfp(x x: or(U(x), some(y: and(x(y), E(y x)))))(y)", "y", ""},
		{"some(a: lfp(R1 x: or(E(a x), some(y: and(R1(y), E(y x)))))(b))", "b", ""},
		{"tc(x y: E(x y))(a b)", "a b", "R1(v0 v0). R1(v0 v1) :- R1(v0 v2), E(v2 v1)."},
		{"tc(x y: E(x y))(b a)", "a b", ""},
		{"tc(x y: E(x y))(a a)", "a", ""},
		{"tc(x y: E(y x))(x y)", "x y", ""},
		{"tc(x y: or(E(x y), E(x a)))(b a)", "a b", "R1(v0 v0). R1(v0 v1) :- R1(v0 v2), E(v1 v2). R1(v0 v1) :- R1(v0 v2), E(v1 v0)."},
		{"tc(x y: or(E(x y), E(x a)))(a b)", "a b", "R1(v0 v0). R1(v0 v1) :- R1(v0 v2), E(v2 v1). R1(v0 v1) :- R1(v0 v2), E(v2 v0)."},
		{"tc(x y: E(x y))(b b)", "a b", "R1(v0 v0). R1(v0 v1) :- R1(v0 v2), E(v2 v1). R2(v0 v1) :- R1(v1 v1)."},
		{"tc(x y: and(E(x y), E(a y), not(x = b)))(a b)", "a b", ""},
		{"tc(x y u v: and(E(x u), E(v y)))(a b b a)", "a b", ""},
		{"tc(x y u v: or(and(E(x u), y = v), and(x = v, y = u)))(a b a c)", "a b c", ""},
		{"tc(x y: tc(x y: or(E(x y), E(y z)))(y x))(x z)", "x z", ""},
		{"tc(x y: some(z: and(E(x z), lfp(R u: or(E(u y), some(v: and(R(v), E(u v)))))(z))))(a b)", "a b", ""},
		{"tc(x y: false)(a b)", "a b", "R1(v0 v0)."},
		{"and(tc(x y: E(x y))(a b), tc(x y: E(y x))(a b))", "a b", ""},
	} {
		f, vars := parse(t, c.formula), words(c.vars)
		l, _ := from(t, f, vars)
		if c.want != "" && !sameProgram(l, program(t, c.want)) {
			t.Errorf("From(%q, %q) is %s", c.formula, c.vars, write(l))
		}
		for range 30 {
			if !checkFrom(t, f, vars, m.structure(1+m.Intn(4))) {
				t.Errorf("From(%q, %q) or its relations are too large", c.formula, c.vars)
			}
		}
	}
}

// TestRandomFrom is P7.3 for formulas that are not too large for rules.
func TestRandomFrom(t *testing.T) {
	m := newMaker(3)
	large := 0
	bound := words("x y z v0")
	for range 4000 {
		vars := m.some(1+m.Intn(4), bound)
		f := m.short(vars, bound)
		if m.Intn(3) == 0 {
			vars = append(vars, numbered("a", m.Intn(4))...)
		}
		if !checkFrom(t, f, vars, m.structure(1+m.Intn(4))) {
			large++
		}
	}
	if large > 200 {
		t.Errorf("%d programs or their relations are too large", large)
	}
}

// TestSmallFormulas has formulas of at most 12 formulas with 4 variables, of which some would be large if each variable that is bound got a place in a rule, with few and with as many columns as possible.
func TestSmallFormulas(t *testing.T) {
	m := newMaker(12)
	for text, symbols := range map[string]string{
		"and(some(x y z w: A(x y z w)), some(x y z w: A(y x z w)), some(x y z w: A(z y x w)), some(x y z w: A(w y z x)), some(x y z w: A(x x z w)))":             "A/4",
		"some(x y z w: and(A(x y z w), some(x y z: and(A(x y z w), some(y z w: and(A(x y z w), some(x y w: A(x y z w))))))))":                                    "A/4",
		"lfp(A x: lfp(B y: lfp(C z: lfp(D w: lfp(F x: lfp(G y: lfp(H z: lfp(I w: lfp(J x: lfp(K y: U(x))(x))(w))(z))(y))(x))(w))(z))(y))(x))(w)":                 "U/1",
		"lfp(A x: tc(x y: lfp(A x: tc(x y: lfp(A x: tc(x y: lfp(A x: tc(x y: lfp(A x: or(E(x y), A(x)))(y))(x z))(y))(x z))(y))(x z))(y))(w x))(y)":              "E/2",
		"and(or(A(), B()), or(B(), C()), or(C(), x = y), D())":                                                                                                   "A/0 B/0 C/0 D/0",
		"lfp(A x: lfp(B x y z: lfp(C x: lfp(D y z w: or(U(x), A(x), B(x y z), C(w), D(w z y)))(x z y))(z))(x w y))(z)":                                           "U/1",
		"tc(x y z w: tc(y z w x: tc(z w x y: tc(w x y z: tc(x y z w: tc(y z w x: A(x y z w))(w z y x))(w z y x))(w z y x))(w z y x))(w z y x))(x y z w)":         "A/4",
		"tc(x y: tc(z w: tc(x y: tc(z w: tc(x y: tc(z w: tc(x y: tc(z w: A(x y z w))(x y))(z w))(x y))(z w))(x y))(z w))(x y))(z w)":                             "A/4",
		"or(A(x y z w), some(x: A(x y z w)), some(y: A(x y z w)), some(z: A(x y z w)), some(w: A(x y z w)))":                                                     "A/4",
		"and(some(x: A(x y z w)), some(y: A(x y z w)), some(z: A(x y z w)), some(w: A(x y z w)), some(x y: A(x y z w)))":                                         "A/4",
		"and(x = y, y = z, z = w, not(x = w), x < y, y < z, z < w, not(w < x))":                                                                                  "",
		"lfp(A x y: or(B(x y z w), some(z: lfp(C x w: or(A(x w), lfp(D z: or(C(z y), D(x)))(w)))(y z))))(z w)":                                                   "B/4",
		"tc(x y: or(E(x y), tc(x z: or(E(x z), tc(x w: or(E(x w), E(y z)))(y z)))(x y)))(z w)":                                                                   "E/2",
		"lfp(A x y z w: or(B(x y z w), some(x: A(x y z w)), lfp(C x y z w: or(A(w x y z), C(x x x x)))(y y z z)))(x y z w)":                                      "B/4",
		"lfp(A w: and(true, lfp(B x: or(U(w), some(y z: and(A(y), B(z), E(x y)))))(w)))(z)":                                                                      "E/2 U/1",
		"lfp(A x y: some(z w: or(and(A(z w), A(w x)), and(B(x y z w), A(x x)), B(w z y x))))(z w)":                                                               "B/4",
		"and(some(x: some(y: A(x y z w))), some(z: some(w: A(x y z w))), some(x: some(w: A(x y z w))))":                                                          "A/4",
		"and(tc(x y: A(x y z w))(x y), tc(x z: A(x y z w))(x y), tc(x w: A(x y z w))(z w), tc(y z: A(x y z w))(w w), tc(w z: A(x y z w))(z w))":                  "A/4",
		"and(lfp(A x: or(A(y), A(z), A(w), U(x)))(x), lfp(B x: or(B(y), B(z), U(y)))(y))":                                                                        "U/1",
		"some(x y z w: tc(x y: some(z w: tc(z y: some(x y: tc(z w: some(x y: tc(x z: some(y w: tc(x y: some(z w: A(x y z w)))(z w)))(z w)))(z w)))(z w)))(z w))": "A/4",
		"lfp(A x y: some(z: lfp(B z w: some(x: lfp(C x y: some(w: lfp(D z w: or(U(x), A(x w), B(y z), C(x y)))(x y)))(z w)))(x y)))(z w)":                        "U/1",
		"lfp(A x: some(y z w: lfp(B x: some(y z w: lfp(C x: some(y z w: lfp(D y z w: or(A(x), B(y), C(w)))(x x x)))(y)))(z)))(w)":                                "",
		"lfp(A x y: lfp(B z w: lfp(C x y: lfp(D z w: lfp(F x y: or(U(x), A(x y), B(x y), C(z w), D(z z), F(w w)))(z w))(x y))(z w))(x y))(z w)":                  "U/1",
		"lfp(A x: lfp(B y z w: lfp(C x: lfp(D y z w: lfp(F x: lfp(G y z w: or(A(x), B(x y z), C(w), D(y z x), F(y)))(x x x))(y))(x x x))(y))(x x x))(y)":         "",
		"lfp(A x: lfp(B y z w: lfp(C x: lfp(D y z w: lfp(F x: lfp(G y z w: or(U(x), A(x), B(x y z), C(w), F(y)))(x x x))(y))(x x x))(y))(x x x))(y)":             "U/1",
		"some(x y z: or(and(A(x y z w), or(A(y x w z), A(z z z z))), and(or(A(w w x y), A(w x x w)), A(w w w w))))":                                              "A/4",
		"and(or(A(x y z w), A(y x z w), A(z y x w), A(w y z x)), or(A(x x y y), A(y y x x), A(z z w w), A(w w z z), A(x y x y)))":                                "A/4",
		"tc(x y z w: and(A(x y z w), tc(x y z w: or(A(x y w z), tc(x y: some(z w: and(A(x y z w), A(y x w z))))(z w)))(x y z w)))(w w z z)":                      "A/4",
		"lfp(A x y: tc(z w x y: or(A(x z), and(A(z w), tc(x y z w: or(A(y z), B(x y z w)))(z w x y))))(x y y x))(z w)":                                           "B/4",
		"and(some(x y z: A(x y z w)), some(x y w: A(x y z w)), some(x z w: A(x y z w)), some(y z w: A(x y z w)), some(x y z w: A(x y z w)))":                     "A/4",
	} {
		f := parse(t, text)
		if formula.Size(f) > 12 {
			t.Fatalf("%q has %d formulas", text, formula.Size(f))
		}
		s := api.Structure{Size: 2}
		for _, x := range words(symbols) {
			name, places, _ := strings.Cut(x, "/")
			k, _ := strconv.Atoi(places)
			s.Rels = append(s.Rels, m.relation(name, 2, k))
		}
		for _, vars := range [][]string{words("x y z w"), append(words("w z y x"), numbered("a", 8)...)} {
			l, _ := from(t, f, vars)
			if !checkFrom(t, f, vars, s) && len(defined(l))+len(s.Rels) <= api.MaxRels {
				t.Errorf("the program of %q or its relations are too large: %s", text, write(l))
			}
		}
	}
}

// relation makes a relation of about half of the tuples.
func (m maker) relation(name string, n, arity int) api.Rel {
	r := api.Rel{Name: name, Arity: arity}
	for _, tuple := range tuples(n, arity) {
		if m.Intn(2) == 0 {
			r.Tuples = append(r.Tuples, tuple)
		}
	}
	return r
}

// repeat returns n copies of a text, with numbers for the signs #, separated by commas.
func repeat(n int, text string) string {
	var l []string
	for i := range n {
		l = append(l, strings.ReplaceAll(text, "#", strconv.Itoa(i)))
	}
	return strings.Join(l, ", ")
}

// TestFromLimits has formulas that need many rules, names, conditions or variables.
func TestFromLimits(t *testing.T) {
	m := newMaker(13)
	s := api.Structure{Size: 2, Rels: []api.Rel{m.relation("U", 2, 1), m.relation("E", 2, 2), {Name: "Z"}}}
	fits := func(text string) int {
		t.Helper()
		f := parse(t, text)
		l, _, e := rules.From(f, words("x y"))
		if e != api.OK {
			t.Fatalf("From(%.200q) is error %d", text, e)
		}
		if e == api.OK && !checkFrom(t, f, words("x y"), s) && len(defined(l)) <= 5 {
			t.Errorf("the program of %.200q or its relations are too large: %s", text, write(l))
		}
		return len(defined(l))
	}
	for text, names := range map[string]int{
		"and(" + repeat(20, "E(x y)") + ")":                                        1,
		"and(" + repeat(21, "E(x y)") + ")":                                        2,
		"and(" + repeat(39, "not(U(x))") + ")":                                     2,
		"and(" + repeat(40, "not(U(x))") + ")":                                     3,
		"and(" + repeat(400, "E(x y)") + ")":                                       21,
		"and(" + repeat(401, "E(x y)") + ")":                                       22,
		"or(" + repeat(60, "E(x y)") + ")":                                         1,
		"and(U(x), or(" + repeat(60, "E(x y)") + "), U(y))":                        1,
		"and(" + repeat(4, "or(U(x), E(x y))") + ")":                               1,
		"and(" + repeat(5, "or(U(x), E(x y))") + ")":                               2,
		"and(" + repeat(25, "or(U(x), E(x y))") + ")":                              0,
		"or(" + repeat(4, "and("+repeat(3, "or(U(x), E(x y))")+")") + ")":          1,
		"or(" + repeat(5, "and("+repeat(4, "or(U(x), E(x y))")+")") + ")":          0,
		"and(" + repeat(2, "some(z#: E(x z#))") + ")":                              1,
		"and(" + repeat(4, "some(z#: E(x z#))") + ")":                              2,
		"and(" + repeat(5, "some(z#: E(x z#))") + ")":                              2,
		"and(" + repeat(9, "some(z#: E(z# y))") + ", some(z: E(x z)))":             4,
		"and(" + repeat(18, "some(z#: E(x z#))") + ")":                             4,
		"and(" + repeat(60, "some(z#: E(x z#))") + ")":                             0,
		"and(" + repeat(30, "some(a# b#: and(E(a# b#), E(b# a#), E(x a#)))") + ")": 0,
		"some(" + strings.ReplaceAll(repeat(12, "z#"), ",", "") + ": and(E(x z0), E(z0 z1), E(z1 z2), E(z2 z3), E(z3 z4), E(z4 z5), E(z5 z6), E(z6 z7), E(z7 z8), E(z8 z9), E(z9 z10), E(z10 z11), E(z11 y)))": 3,
		"and(" + repeat(7, "tc(x y: E(x y))(x y)") + ")":                             8,
		"and(" + repeat(59, "tc(x y: and(E(x y), U(x)))(x y)") + ")":                 -1,
		"or(" + repeat(61, "false") + ", E(x y))":                                    1,
		"and(" + repeat(100, "true") + ")":                                           1,
		"and(or(" + repeat(10, "U(x)") + "), or(" + repeat(10, "U(y)") + "), false)": 1,
	} {
		if names < 0 {
			if l, name, e := rules.From(parse(t, text), words("x y")); e != api.ErrSize || len(l) > 0 || name != "" {
				t.Errorf("From(%.200q) is %s, error %d", text, write(l), e)
			}
			continue
		}
		if n := fits(text); names > 0 && n != names {
			t.Errorf("From(%.200q) has %d names instead of %d", text, n, names)
		}
	}
}

// TestManyColumns has conditions that are too many for a rule whose head has more variables than rules should have.
func TestManyColumns(t *testing.T) {
	m := newMaker(17)
	s := api.Structure{Size: 2, Rels: []api.Rel{m.relation("U", 2, 1), m.relation("E", 2, 2), {Name: "Z"}}}
	for _, n := range []int{20, 21, 40} {
		f := parse(t, "and("+repeat(n, "E(x y)")+")")
		if !checkFrom(t, f, words("x a b c y d e f"), s) {
			t.Errorf("the program for %d conditions or its relations are too large", n)
		}
	}
}

// TestFromTooLarge has formulas that need too many rules or variables, some of them as large as a formula may be: that must soon be found.
func TestFromTooLarge(t *testing.T) {
	vars := strings.Join(numbered("z", 12), " ")
	other := strings.Join(numbered("y", 12), " ")
	for _, text := range []string{
		"or(" + repeat(61, "E(x y)") + ")",
		"and(U(x), or(" + repeat(61, "E(x y)") + "))",
		"and(or(" + repeat(40, "E(x y)") + "), or(" + repeat(40, "E(x y)") + "))",
		"and(" + repeat(61, "or(U(x), E(x y))") + ")",
		"and(" + repeat(1300, "or(U(x), E(x y))") + ")",
		"and(" + repeat(1201, "E(x y)") + ")",
		"and(" + repeat(3900, "E(x y)") + ")",
		"and(or(" + repeat(1900, "E(x y)") + "), " + repeat(1900, "E(x y)") + ")",
		"or(" + repeat(10, "and("+repeat(4, "or(U(x), E(x y))")+")") + ")",
		"and(" + repeat(61, "tc(x y: E(x y))(x y)") + ")",
		"and(" + repeat(1700, "tc(x y: E(x y))(x y)") + ")",
		"and(" + repeat(1600, "some(z#: E(x z#))") + ")",
		"and(" + repeat(59, "some("+vars+": and(A("+vars+"), E(z0 z1), E(x z2)))") + ")",
		"and(" + repeat(200, "some("+vars+": and(A("+vars+"), E(z0 z1), E(x z2)))") + ")",
		"some(" + vars + ": and(A(" + vars + "), " + repeat(12, "E(x z#)") + "))",
		"some(" + vars + ": some(" + other + ": and(" + repeat(12, "E(z# y#)") + ", A(" + vars + "), A(" + other + "))))",
		"or(E(x y), and(" + repeat(59, "some("+vars+": and(A("+vars+"), E(z0 z1), E(x z2)))") + "))",
		"or(E(x y), and(" + repeat(200, "some("+vars+": and(A("+vars+"), E(z0 z1), E(x z2)))") + "))",
		"tc(" + vars + " " + other + ": and(A(" + vars + "), A(" + other + ")))(" + strings.Repeat("x y ", 12) + ")",
	} {
		if l, name, e := rules.From(parse(t, text), words("x y")); e != api.ErrSize || len(l) > 0 || name != "" {
			t.Errorf("From(%.200q) is %s, error %d", text, write(l), e)
		}
	}
}

func TestFromErrors(t *testing.T) {
	good := parse(t, "E(x y)")
	for _, vars := range [][]string{
		nil, words("x"), words("y"), words("x z"), words("x y x"), words("x y not"), {"x", "y", ""}, {"x", "y", "é"},
		append(words("x y"), numbered("a", 11)...), make([]string, 1<<16), slices.Repeat([]string{"x", "y"}, 100), append(words("x y"), strings.Repeat("z", 13)),
	} {
		if l, name, e := rules.From(good, vars); e != api.ErrArg || len(l) > 0 || name != "" {
			t.Errorf("From(E(x y), %.100q) is %s with %q, error %d", vars, write(l), name, e)
		}
	}
	for _, text := range []string{
		"all(x: U(x))", "pfp(R x: U(x))(x)", "exists(R 1: U(x))", "not(and(U(x)))", "not(not(U(x)))", "not(some(x: U(x)))", "not(true)", "not(or())",
		"not(tc(x y: E(x y))(x y))", "not(lfp(R x: U(x))(x))", "and(U(x), all(x: U(x)))", "or(U(x), not(all(x: U(x))))", "lfp(R x: exists(S 0: S()))(x)",
		"tc(x y: not(and()))(x y)", "some(x: pfp(R x: R(x))(x))", "lfp(R x: not(not(R(x))))(x)", "and(not(U(x)), not(U(x)), all(y: U(x)))",
	} {
		if l, name, e := rules.From(parse(t, text), words("x y")); e != api.ErrArg || len(l) > 0 || name != "" {
			t.Errorf("From(%q) is %s with %q, error %d", text, write(l), name, e)
		}
	}
	for _, f := range []api.Formula{{}, {Kind: api.FAll}, {Kind: api.FNot}, {Kind: api.FKinds}, {Kind: -1}} {
		if l, name, e := rules.From(f, words("x x")); e != api.ErrForm || len(l) > 0 || name != "" {
			t.Errorf("From(%v) is %s with %q, error %d", f, write(l), name, e)
		}
	}
	if l, name, e := rules.From(parse(t, "or("+repeat(61, "all(x: E(x y))")+")"), words("y")); e != api.ErrArg || len(l) > 0 || name != "" {
		t.Errorf("From is %s with %q, error %d", write(l), name, e)
	}
}

// TestFromNames has formulas with the names that programs use, and structures without or with other relations.
func TestFromNames(t *testing.T) {
	m := newMaker(14)
	for _, text := range []string{
		"and(R1(x y), some(R2: R2(R2 x)))",
		"lfp(R1 x: or(R2(x x), some(y: and(R1(y), R3(y x)))))(y)",
		"and(lfp(R1 x: or(R2(x x), some(y: and(R1(y), R3(y x)))))(y), R1(x y))",
		"tc(R1 R2: R1(R2 R1))(x y)",
	} {
		f := parse(t, text)
		s := api.Structure{Size: 3}
		for _, x := range formula.Symbols(f) {
			s.Rels = append(s.Rels, m.relation(x.Name, 3, x.Arity))
		}
		if !checkFrom(t, f, words("x y"), s) || !checkFrom(t, f, words("y v0 x"), s) {
			t.Errorf("the program of %q or its relations are too large", text)
		}
	}
}
