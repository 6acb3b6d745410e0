package rules_test

import (
	"slices"
	"strconv"
	"strings"
	"testing"

	"paraphrast/api"
	"paraphrast/formula"
	"paraphrast/rules"
)

// makeFormula returns the formula of a defined name, which must have one with the right variables and symbols.
func makeFormula(t *testing.T, l []api.Rule, name string) api.Formula {
	t.Helper()
	f, e := rules.Formula(l, name)
	if e != api.OK || !formula.Valid(f) {
		t.Fatalf("Formula(%s, %s) is %s, error %d", write(l), name, writeFormula(f), e)
	}
	for _, v := range formula.Free(f) {
		if !slices.Contains(numbered("v", arity(l, name)), v) {
			t.Errorf("Formula(%s, %s) has the free variable %s", write(l), name, v)
		}
	}
	for _, x := range formula.Symbols(f) {
		if slices.Contains(defined(l), x.Name) || arity(l, x.Name) != x.Arity {
			t.Errorf("Formula(%s, %s) has the symbol %s/%d", write(l), name, x.Name, x.Arity)
		}
	}
	return f
}

// checkFormula compares the formula of a defined name with its relation. It reports false if the formula is too large for Query.
func checkFormula(t *testing.T, l []api.Rule, name string, s api.Structure) bool {
	t.Helper()
	f := makeFormula(t, l, name)
	got, ok := query(t, f, s, numbered("v", arity(l, name)))
	if !ok {
		return false
	}
	if want := relation(t, run(t, l, s), name); !equalTuples(got, want) {
		t.Errorf("Formula(%s, %s) is %s, which in %s has %v instead of %v", write(l), name, writeFormula(f), writeStructure(s), got, want)
	}
	return true
}

// TestFormula has programs of all shapes: each name is compared in all structures.
func TestFormula(t *testing.T) {
	m := newMaker(9)
	for _, text := range []string{
		"P(x y) :- E(x y). P(x y) :- E(x z), P(z y). Q(x) :- not P(x x).",
		"P(). Q(x). R(x y). S(x x). T(x y x y). W(x y y) :- E(x y).",
		"P(x) :- x = y. Q(x) :- not x < y. R(x) :- x < x.",
		"P(x) :- E(v0 v1). Q(v1 v0) :- E(v0 v1). R(v1 v1) :- E(v1 v0), E(v0 v2).",
		"P() :- U(x). Q() :- not P(). R(x) :- not Q(), U(x).",
		"P() :- P(). P() :- Q(). Q() :- P(), U(x). Q() :- Z().",
		"P(x) :- Q(), E(x y). Q() :- P(x), U(x). Q() :- Z().",
		"P() :- Q(x y), E(x y). Q(x y) :- P(), U(x). Q(x x) :- Z().",
		"P(x) :- U(x). P(y) :- Q(x), E(x y). Q(y) :- P(x), E(x y). R(x x) :- Q(x). S(x) :- R(x x), R(x y).",
		"A(x) :- B(x x). B(x y) :- E(x y). B(x y) :- B(x z), B(z y). B(x x) :- C(x), A(x). C(x) :- not D(x). D(x) :- U(x), D(x). D(x) :- D(y), E(y x). D(x) :- Z().",
		"A(x y) :- B(y x). B(x y) :- C(y x), E(x z). C(x y) :- A(x y). C(x y) :- E(x y), not F(x y y). F(x y z) :- F(y z x). F(x x y) :- E(x y).",
		"P(x y) :- E(x y). P(x y) :- P(x z), P(z y). Q(x y) :- P(y x), Q(y x). Q(x y) :- P(x y), P(y x). R(x) :- not Q(x x), P(x y), not P(y x).",
		"E1(x) :- x = x. R1(x y) :- E(x y), R1(y x). R1(x x) :- R2(x). R2(x) :- R1(x y), U(y). R2(y1) :- U(y1), E(y1 x1), E1(y1).",
	} {
		l := program(t, text)
		for _, name := range defined(l) {
			for range 12 {
				if s := m.structure(2 + m.Intn(2)); !checkFormula(t, l, name, keep(t, s, l)) {
					t.Errorf("Formula(%q, %s) is too large", text, name)
				}
			}
		}
	}
}

// keep returns s without the relations that l does not use, if it uses too many others.
func keep(t *testing.T, s api.Structure, l []api.Rule) api.Structure {
	t.Helper()
	s.Rels = slices.DeleteFunc(s.Rels, func(r api.Rel) bool { return arity(l, r.Name) < 0 })
	return s
}

// TestRandomFormulas is P7.3 for programs that are not too large for a formula.
func TestRandomFormulas(t *testing.T) {
	m := newMaker(2)
	large, count := 0, 0
	for range 1500 {
		l := m.program(dress{3, 6, 3, 4, 2})
		s := m.structure(2 + m.Intn(2))
		for _, name := range defined(l) {
			count++
			if !checkFormula(t, l, name, s) {
				large++
			}
		}
	}
	if large > count/20 {
		t.Errorf("%d of %d formulas are too large for Query", large, count)
	}
}

// TestLargeFormulas has the programs that may be largest without an error: 3 names that use one another as often as possible.
func TestLargeFormulas(t *testing.T) {
	m := newMaker(10)
	names := words("A B C")
	vars := words("x y z w")
	for range 400 {
		// The names are used in a circle, or only by those before them, with negations.
		circle := m.Intn(2) == 0
		var l []api.Rule
		for i := range 6 {
			r := api.Rule{Head: api.Atom{Name: names[i/2], Args: m.args(2, vars)}}
			for range 3 {
				to := pick(m, names[i/2:]...)
				neg := to != r.Head.Name && m.Intn(4) > 0
				if circle {
					to, neg = pick(m, names[(i/2+1)%3], names[m.Intn(3)]), false
				}
				r.Body = append(r.Body, api.Cond{Neg: neg, Atom: api.Atom{Name: to, Args: m.args(2, vars)}})
			}
			if i == 5 {
				r.Body = []api.Cond{rel("E", "x y"), rel("E", "y z"), rel("E", "z w")}
			}
			l = append(l, r)
		}
		for _, name := range names {
			makeFormula(t, l, name)
		}
	}
	for text, sizes := range map[string][2]int{
		"A(x x) :- not B(x z), not B(y w), not B(w x). A(x y) :- not B(z x), not B(y w), not B(w x). B(x x) :- not C(y z), not C(z w), not C(x w). B(x x) :- not C(y z), not C(z w), not C(x w). C(x x) :- E(x y), E(y z), E(z w). C(x x) :- E(x y), E(z w), E(z w).": {500, 600},
		"A(x x) :- A(x x), not B(y y), not B(w w). A(x y) :- A(z x), not B(y y), not B(w w). B(x x) :- B(y z), not C(z z), not C(w w). B(x x) :- not C(y y), not C(z z), B(x w). C(x x) :- C(x y), E(y z), E(z w). C(x x) :- E(x y), E(z w), E(z w).":                 {300, 400},
	} {
		l := program(t, text)
		f := makeFormula(t, l, "A")
		if n := formula.Size(f); n < sizes[0] || n > sizes[1] {
			t.Errorf("Formula(%q) has size %d, depth %d", text, n, formula.Depth(f))
		}
	}
}

func TestFormulaErrors(t *testing.T) {
	l := program(t, "P(x y) :- E(x y). P(x y) :- E(x z), P(z y). Q(x) :- not P(x x), x(x).")
	for _, name := range words("E x R p PQ not lfp 1") {
		if f, e := rules.Formula(l, name); e != api.ErrName || !formula.Same(f, api.Formula{}) {
			t.Errorf("Formula(%s) is %s, error %d", name, writeFormula(f), e)
		}
	}
	for _, name := range []string{"", "R", "P "} {
		if f, e := rules.Formula(l, name); e != api.ErrName || !formula.Same(f, api.Formula{}) {
			t.Errorf("Formula(%q) is %s, error %d", name, writeFormula(f), e)
		}
		if f, e := rules.Formula(nil, name); e != api.ErrName || !formula.Same(f, api.Formula{}) {
			t.Errorf("Formula of no rules for %q is %s, error %d", name, writeFormula(f), e)
		}
	}
	l[0].Head.Name = "Q"
	if f, e := rules.Formula(l, "R"); e != api.ErrForm || !formula.Same(f, api.Formula{}) {
		t.Errorf("Formula of no program is %s, error %d", writeFormula(f), e)
	}
}

// chain returns a program of n names, each of which asks count times for the next one, with two rules.
func chain(n, count int, form string) string {
	var b strings.Builder
	for i := range n {
		next := strings.ReplaceAll(form, "N", "P"+strconv.Itoa(i+1))
		if i == n-1 {
			next = "E(x y)"
		}
		b.WriteString("P" + strconv.Itoa(i) + "(x) :- " + strings.Repeat(next+", ", count-1) + next + ".\n")
	}
	return b.String()
}

// TestFormulaLimits has programs whose formulas are too large, which must soon be found.
func TestFormulaLimits(t *testing.T) {
	for text, want := range map[string]api.Errno{
		chain(60, 1, "N(x)"):         api.OK,
		chain(59, 1, "not N(x)"):     api.OK,
		chain(60, 1, "not N(x)"):     api.ErrSize, // too deep
		chain(60, 20, "N(x)"):        api.ErrSize,
		chain(60, 20, "not N(y)"):    api.ErrSize,
		chain(11, 2, "N(x)"):         api.ErrSize,
		chain(10, 2, "N(x)"):         api.OK,
		chain(3, 20, "N(y)"):         api.ErrSize,
		chain(30, 2, "N(y), P0(x)"):  api.ErrSize, // names that depend on each other, more than a system may have
		chain(12, 1, "N(y), P0(x)"):  api.OK,
		chain(8, 1, "N(y), P0(x)"):   api.OK,
		chain(9, 1, "N(y), N(x)"):    api.OK,
		chain(10, 1, "P0(x), N(x)"):  api.OK,
		chain(60, 20, "N(y), P0(x)"): api.ErrParse,
	} {
		l, e := rules.Parse(text)
		if e != api.OK {
			if want != api.ErrParse {
				t.Errorf("Parse(%.100q) is error %d", text, e)
			}
			continue
		}
		f, e := rules.Formula(l, "P0")
		if e != want || (e != api.OK) != formula.Same(f, api.Formula{}) {
			t.Errorf("Formula(%.100q) is %s, error %d instead of %d", text, writeFormula(f), e, want)
		}
		if _, e := rules.Formula(l, "P2"); e == api.ErrName {
			t.Errorf("Formula(%.100q, P2) is error %d", text, e)
		}
	}
}

// TestLargestFormula has a formula of as many formulas as there may be, and one more.
func TestLargestFormula(t *testing.T) {
	conds := func(n int) string { return strings.Repeat("E(), ", n-1) + "E()" }
	for extra, want := range []api.Errno{api.OK, api.OK, api.ErrSize, api.ErrSize} {
		// B needs 9 times 21 and 9, and 1 for all; A 20 times B and 1, the other conditions and 1, and 1 for both.
		text := strings.Repeat("B() :- "+conds(20)+".", 9) + "B() :- " + conds(8) + "."
		text += "A() :- " + strings.Repeat("B(), ", 19) + "B(). A() :- " + conds(16+extra) + "."
		f, e := rules.Formula(program(t, text), "A")
		if e != want || e == api.OK && formula.Size(f) != api.MaxNodes-1+extra || e != api.OK && !formula.Same(f, api.Formula{}) {
			t.Errorf("with %d more conditions, Formula has size %d, error %d", extra, formula.Size(f), e)
		}
	}
}

// TestManyNames has more names that depend on each other than a system may have definitions. Run cannot have so many relations, so the formulas are compared with that of a shorter way.
func TestManyNames(t *testing.T) {
	for _, n := range []int{7, 8, 9, 10, 12} {
		l := []api.Rule{rule(head("P0", "x"), rel("U", "x"))}
		for i := range n {
			l = append(l, rule(head("P"+strconv.Itoa((i+1)%n), "y"), rel("P"+strconv.Itoa(i), "x"), rel("E", "x y")))
		}
		f := makeFormula(t, l, "P0")
		for _, size := range []int{2, 3} {
			s := api.Structure{Size: size, Rels: []api.Rel{{Name: "U", Arity: 1, Tuples: [][]int{{0}}}, {Name: "E", Arity: 2}}}
			for i := range size {
				s.Rels[1].Tuples = append(s.Rels[1].Tuples, []int{i, (i + 1) % size})
			}
			var want [][]int
			for x := range size {
				for k := range size {
					if k*n%size == x && (len(want) == 0 || want[len(want)-1][0] != x) {
						want = append(want, []int{x})
					}
				}
			}
			if got, ok := query(t, f, s, words("v0")); ok && !equalTuples(got, want) {
				t.Errorf("for %d names and %d elements, %s has %v instead of %v", n, size, writeFormula(f), got, want)
			}
		}
	}
}
