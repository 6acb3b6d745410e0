package mean_test

import (
	"math/rand"
	"slices"
	"strconv"
	"strings"
	"testing"

	"paraphrast/api"
	"paraphrast/formula"
	"paraphrast/mean"
	"paraphrast/shape"
)

// parse returns the formula of a text that must be one.
func parse(t *testing.T, text string) api.Formula {
	t.Helper()
	f, at, e := formula.Parse(text)
	if e != api.OK {
		t.Fatalf("Parse(%q) is error %d at %d", text, e, at)
	}
	return f
}

// structure returns the structure of a text that must be one.
func structure(t *testing.T, text string) api.Structure {
	t.Helper()
	s, e := shape.Parse(text)
	if e != api.OK {
		t.Fatalf("%q is no structure, error %d", text, e)
	}
	return s
}

// names returns the words of a text: the tests write lists of variables like that.
func names(words string) []string {
	return strings.Fields(words)
}

// write returns the text of f, or its fields if it has none.
func write(f api.Formula) string {
	text, e := formula.Text(f)
	if e != api.OK {
		return "a formula of error " + strconv.Itoa(int(e))
	}
	return text
}

// writeTuples returns tuples as they are written in structures.
func writeTuples(l [][]int) string {
	var words []string
	for _, tuple := range l {
		var numbers []string
		for _, x := range tuple {
			numbers = append(numbers, strconv.Itoa(x))
		}
		if len(tuple) == 0 {
			numbers = []string{"()"}
		}
		words = append(words, strings.Join(numbers, ","))
	}
	return strings.Join(words, " ")
}

// query returns what Query does, which must not be an error.
func query(t *testing.T, f api.Formula, s api.Structure, vars string) [][]int {
	t.Helper()
	l, e := mean.Query(f, s, names(vars))
	if e != api.OK {
		t.Fatalf("Query(%s, %v, %s) is error %d", write(f), s, vars, e)
	}
	return l
}

func wantQuery(t *testing.T, text, in, vars, want string) {
	t.Helper()
	l := query(t, parse(t, text), structure(t, in), vars)
	if writeTuples(l) != want {
		t.Errorf("in %s, %s holds for %s: %s instead of %s", in, text, vars, writeTuples(l), want)
	}
}

// wantSame fails unless two formulas hold for the same values.
func wantSame(t *testing.T, f, g api.Formula, s api.Structure, vars string) {
	t.Helper()
	a, b := query(t, f, s, vars), query(t, g, s, vars)
	if writeTuples(a) != writeTuples(b) {
		t.Errorf("in %v, %s holds for %s: %s, but %s for %s", s, write(f), vars, writeTuples(a), write(g), writeTuples(b))
	}
}

// wantHolds calls Holds with all variables named once in vars; at lists their values.
func wantHolds(t *testing.T, f api.Formula, s api.Structure, vars string, at []int, want bool) {
	t.Helper()
	if is, e := mean.Holds(f, s, names(vars), at); is != want || e != api.OK {
		t.Errorf("Holds(%s, %v, %s, %v) is %v, error %d", write(f), s, vars, at, is, e)
	}
}

// wantError fails unless both Holds and Query return this error and nothing else.
func wantError(t *testing.T, f api.Formula, s api.Structure, vars []string, at []int, want api.Errno) {
	t.Helper()
	if is, e := mean.Holds(f, s, vars, at); is || e != want {
		t.Errorf("Holds(%s, %v, %q, %v) is %v, error %d instead of %d", write(f), s, vars, at, is, e, want)
	}
	if l, e := mean.Query(f, s, vars); len(l) > 0 || e != want {
		t.Errorf("Query(%s, %v, %q) is %v, error %d instead of %d", write(f), s, vars, l, e, want)
	}
}

func not(f api.Formula) api.Formula {
	return api.Formula{Kind: api.FNot, Kids: []api.Formula{f}}
}

func and(kids ...api.Formula) api.Formula {
	return api.Formula{Kind: api.FAnd, Kids: kids}
}

func or(kids ...api.Formula) api.Formula {
	return api.Formula{Kind: api.FOr, Kids: kids}
}

func some(vars string, f api.Formula) api.Formula {
	return api.Formula{Kind: api.FSome, Vars: names(vars), Kids: []api.Formula{f}}
}

func all(vars string, f api.Formula) api.Formula {
	return api.Formula{Kind: api.FAll, Vars: names(vars), Kids: []api.Formula{f}}
}

func rel(name, args string) api.Formula {
	return api.Formula{Kind: api.FRel, Name: name, Args: names(args)}
}

// defined returns an FLfp or FPfp.
func defined(kind int, name, vars string, f api.Formula, args string) api.Formula {
	return api.Formula{Kind: kind, Name: name, Vars: names(vars), Args: names(args), Kids: []api.Formula{f}}
}

func tc(vars string, f api.Formula, args string) api.Formula {
	return api.Formula{Kind: api.FTc, Vars: names(vars), Args: names(args), Kids: []api.Formula{f}}
}

func exists(name string, arity int, f api.Formula) api.Formula {
	return api.Formula{Kind: api.FSecond, Name: name, Arity: arity, Kids: []api.Formula{f}}
}

// tuples lists the tuples of k elements out of n, rising.
func tuples(n, k int) [][]int {
	l := [][]int{{}}
	for range k {
		var longer [][]int
		for _, tuple := range l {
			for x := range n {
				longer = append(longer, append(slices.Clone(tuple), x))
			}
		}
		l = longer
	}
	return l
}

// with returns s with a further relation.
func with(s api.Structure, name string, arity int, l [][]int) api.Structure {
	s.Rels = append(slices.Clone(s.Rels), api.Rel{Name: name, Arity: arity, Tuples: l})
	return s
}

// maker makes formulas and structures at random. All of them use the symbols P/1, E/2, Q/0 and T/3, and the variables x, y, z and w.
type maker struct{ *rand.Rand }

func newMaker(seed int64) maker {
	return maker{rand.New(rand.NewSource(seed))}
}

func symbols() []api.Symbol {
	return []api.Symbol{{Name: "P", Arity: 1}, {Name: "E", Arity: 2}, {Name: "Q"}, {Name: "T", Arity: 3}}
}

const variables = "x y z w"

func (m maker) structure(n int) api.Structure {
	s := api.Structure{Size: n}
	for _, x := range symbols() {
		often := m.Intn(5)
		var l [][]int
		for _, tuple := range tuples(n, x.Arity) {
			if m.Intn(5) < often {
				l = append(l, tuple)
			}
		}
		s = with(s, x.Name, x.Arity, l)
	}
	return s
}

// vars returns n variables, which are the same or different.
func (m maker) vars(n int, different bool) string {
	l := names(variables)
	m.Shuffle(len(l), func(i, j int) { l[i], l[j] = l[j], l[i] })
	for i := range l {
		if !different {
			l[i] = names(variables)[m.Intn(4)]
		}
	}
	return strings.Join(l[:n], " ")
}

func (m maker) symbol() api.Symbol {
	return symbols()[[]int{0, 0, 0, 1, 1, 1, 2, 3}[m.Intn(8)]]
}

func (m maker) atom() api.Formula {
	switch m.Intn(6) {
	case 0:
		return api.Formula{Kind: api.FEq, Args: names(m.vars(2, false))}
	case 1:
		return api.Formula{Kind: api.FLess, Args: names(m.vars(2, false))}
	}
	x := m.symbol()
	return rel(x.Name, m.vars(x.Arity, false))
}

// formula makes a formula that need not be valid: what an FLfp defines may not be positive.
func (m maker) formula(depth int) api.Formula {
	if depth <= 1 {
		return m.atom()
	}
	kid := m.formula(depth - 1)
	x := m.symbol()
	n := 1 + m.Intn(2)
	switch m.Intn(15) {
	case 0, 1:
		return not(kid)
	case 2, 3:
		return and([]api.Formula{m.formula(depth - 2), kid, m.formula(depth - 1)}[:m.Intn(4)]...)
	case 4, 5:
		return or([]api.Formula{kid, m.formula(depth - 2), m.formula(depth - 1)}[:m.Intn(4)]...)
	case 6, 7:
		return some(m.vars(n, true), kid)
	case 8:
		return all(m.vars(n, true), kid)
	case 9, 10:
		n = max(x.Arity, 1)
		return defined(api.FLfp, x.Name, m.vars(n, true), kid, m.vars(n, false))
	case 11, 12:
		n = max(x.Arity, 1)
		return defined(api.FPfp, x.Name, m.vars(n, true), kid, m.vars(n, false))
	case 13:
		return tc(m.vars(2*n, true), kid, m.vars(2*n, false))
	}
	return exists(x.Name, x.Arity, kid)
}

// valid makes a valid formula whose cost for 3 elements is at most a bound, so that the tests can evaluate it by the definitions.
func (m maker) valid(bound int) api.Formula {
	for {
		f := m.formula(2 + m.Intn(5))
		if c, e := mean.Cost(f, 3); e == api.OK && c <= bound {
			return f
		}
	}
}

// has reports whether some formula in f is of this kind.
func has(f api.Formula, kind int) bool {
	return f.Kind == kind || slices.ContainsFunc(f.Kids, func(kid api.Formula) bool { return has(kid, kind) })
}
