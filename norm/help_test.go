package norm_test

import (
	"math/rand"
	"slices"
	"strconv"
	"strings"
	"testing"

	"paraphrast/api"
	"paraphrast/formula"
	"paraphrast/mean"
	"paraphrast/norm"
)

// parse returns the formula of a text that must be one.
func parse(t *testing.T, text string) api.Formula {
	t.Helper()
	f, at, e := formula.Parse(text)
	if e != api.OK {
		t.Fatalf("Parse(%q) is error %d at %d", text, e, at)
	}
	return f
}

// write returns the text of f, as far as that is short enough to be read.
func write(f api.Formula) string {
	text, e := formula.Text(f)
	if e != api.OK {
		return "a formula of error " + strconv.Itoa(int(e))
	}
	if len(text) > 2000 {
		return text[:2000] + ".."
	}
	return text
}

func names(words string) []string {
	return strings.Fields(words)
}

func numbered(letter string, n int) string {
	var l []string
	for i := range n {
		l = append(l, letter+strconv.Itoa(i))
	}
	return strings.Join(l, " ")
}

func rel(name, args string) api.Formula {
	return api.Formula{Kind: api.FRel, Name: name, Args: names(args)}
}

func not(f api.Formula) api.Formula {
	return api.Formula{Kind: api.FNot, Kids: []api.Formula{f}}
}

func and(kids ...api.Formula) api.Formula {
	return api.Formula{Kind: api.FAnd, Kids: kids}
}

func or(kids ...api.Formula) api.Formula {
	return api.Formula{Kind: api.FOr, Kids: kids}
}

// bound returns an FSome or FAll.
func bound(kind int, vars string, f api.Formula) api.Formula {
	return api.Formula{Kind: kind, Vars: names(vars), Kids: []api.Formula{f}}
}

// defined returns an FLfp, FPfp or FTc, which has no name.
func defined(kind int, name, vars string, f api.Formula, args string) api.Formula {
	return api.Formula{Kind: kind, Name: name, Vars: names(vars), Args: names(args), Kids: []api.Formula{f}}
}

func exists(name string, arity int, f api.Formula) api.Formula {
	return api.Formula{Kind: api.FSecond, Name: name, Arity: arity, Kids: []api.Formula{f}}
}

// deep returns f within this number of negations.
func deep(levels int, f api.Formula) api.Formula {
	for range levels {
		f = not(f)
	}
	return f
}

// repeat returns n copies of f.
func repeat(n int, f api.Formula) []api.Formula {
	var l []api.Formula
	for range n {
		l = append(l, f)
	}
	return l
}

// visit calls see for f and each formula in it, with the formulas around it, the outermost one first.
func visit(f api.Formula, around []api.Formula, see func(f api.Formula, around []api.Formula)) {
	see(f, around)
	for _, kid := range f.Kids {
		visit(kid, append(slices.Clone(around), f), see)
	}
}

// binds reports whether f binds the name of a relation.
func binds(f api.Formula, name string) bool {
	return slices.Contains([]int{api.FLfp, api.FPfp, api.FSecond}, f.Kind) && f.Name == name
}

// binding reports whether one of some formulas binds a variable.
func binding(l []api.Formula, v string) bool {
	return slices.ContainsFunc(l, func(f api.Formula) bool { return slices.Contains(f.Vars, v) })
}

// count returns how many formulas f contains, and how many variables they bind.
func count(f api.Formula) (formulas, vars int) {
	visit(f, nil, func(g api.Formula, _ []api.Formula) {
		formulas++
		vars += len(g.Vars)
	})
	return formulas, vars
}

// has reports whether f contains a formula of one of these kinds.
func has(f api.Formula, kinds ...int) bool {
	is := false
	visit(f, nil, func(g api.Formula, _ []api.Formula) { is = is || slices.Contains(kinds, g.Kind) })
	return is
}

// maker makes formulas and structures at random.
type maker struct{ *rand.Rand }

func newMaker(seed int64) maker {
	return maker{rand.New(rand.NewSource(seed))}
}

func symbols() []api.Symbol {
	return []api.Symbol{{Name: "P", Arity: 1}, {Name: "E", Arity: 2}, {Name: "Q"}}
}

// variables are few, so that they are often bound again; the program's new names begin with a v, and the name of a relation may be a variable, too.
const variables = "x y z v1 P"

func (m maker) structure(n int) api.Structure {
	s := api.Structure{Size: n}
	for _, x := range symbols() {
		often := m.Intn(5)
		r := api.Rel{Name: x.Name, Arity: x.Arity}
		for _, tuple := range tuples(n, x.Arity) {
			if m.Intn(5) < often {
				r.Tuples = append(r.Tuples, tuple)
			}
		}
		s.Rels = append(s.Rels, r)
	}
	return s
}

// tuples lists the tuples of k elements out of n, rising.
func tuples(n, k int) [][]int {
	l := [][]int{{}}
	for range k {
		var longer [][]int
		for _, tuple := range l {
			for x := range n {
				longer = append(longer, append(slices.Clone(tuple), x))
			}
		}
		l = longer
	}
	return l
}

// structures returns structures with different relations, most of them small.
func (m maker) structures() []api.Structure {
	var l []api.Structure
	for i := range 24 {
		l = append(l, m.structure([]int{1, 1, 2, 2, 2, 3}[i%6]))
	}
	return l
}

// vars returns n variables, which are the same or different.
func (m maker) vars(n int, different bool) string {
	l := names(variables)
	m.Shuffle(len(l), func(i, j int) { l[i], l[j] = l[j], l[i] })
	for i := range l {
		if !different {
			l[i] = names(variables)[m.Intn(len(l))]
		}
	}
	return strings.Join(l[:n], " ")
}

func (m maker) symbol() api.Symbol {
	return symbols()[[]int{0, 0, 0, 1, 1, 1, 2}[m.Intn(7)]]
}

func (m maker) atom() api.Formula {
	if kind := m.Intn(6); kind == api.FEq || kind == api.FLess {
		return api.Formula{Kind: kind, Args: names(m.vars(2, false))}
	}
	x := m.symbol()
	return rel(x.Name, m.vars(x.Arity, false))
}

// formula makes a formula of some of the kinds, each as often as it is listed; what an FLfp defines may not be positive.
func (m maker) formula(depth int, kinds []int) api.Formula {
	if depth <= 1 {
		return m.atom()
	}
	kid := m.formula(depth-1, kinds)
	x := m.symbol()
	n := 1 + m.Intn(2)
	switch kind := kinds[m.Intn(len(kinds))]; kind {
	case api.FNot:
		return not(kid)
	case api.FAnd, api.FOr:
		kids := []api.Formula{m.formula(depth-2, kinds), kid, m.formula(depth-1, kinds)}
		return api.Formula{Kind: kind, Kids: kids[:m.Intn(4)]}
	case api.FSome, api.FAll:
		return bound(kind, m.vars(n, true), kid)
	case api.FLfp, api.FPfp:
		n = max(x.Arity, 1)
		return defined(kind, x.Name, m.vars(n, true), kid, m.vars(n, false))
	case api.FTc:
		return defined(kind, "", m.vars(2*n, true), kid, m.vars(2*n, false))
	case api.FSecond:
		return exists(x.Name, x.Arity, kid)
	}
	return m.atom()
}

func allKinds() []int {
	return []int{api.FNot, api.FNot, api.FAnd, api.FAnd, api.FOr, api.FOr, api.FSome, api.FSome, api.FAll, api.FAll, api.FLfp, api.FPfp, api.FTc, api.FSecond}
}

func firstKinds() []int {
	return []int{api.FNot, api.FAnd, api.FAnd, api.FOr, api.FOr, api.FSome, api.FSome, api.FAll, api.FAll}
}

// valid makes a valid formula whose cost for 3 elements is at most a bound, so that it is soon evaluated.
func (m maker) valid(kinds []int, bound int) api.Formula {
	for {
		f := m.formula(2+m.Intn(5), kinds)
		if c, e := mean.Cost(f, 3); e == api.OK && c <= bound {
			return f
		}
	}
}

// query returns what Query does, or false if f is too large for that.
func query(t *testing.T, f api.Formula, s api.Structure, vars []string) (string, bool) {
	t.Helper()
	l, e := mean.Query(f, s, vars)
	if e != api.OK && e != api.ErrSize {
		t.Fatalf("Query(%s, %v, %q) is error %d", write(f), s, vars, e)
	}
	var words []string
	for _, tuple := range l {
		for _, x := range tuple {
			words = append(words, strconv.Itoa(x))
		}
		words = append(words, ";")
	}
	return strings.Join(words, " "), e == api.OK
}

// wantMeaning fails unless g has the same meaning as f, as far as some structures show it.
func wantMeaning(t *testing.T, f, g api.Formula, structures []api.Structure) {
	t.Helper()
	if !formula.Valid(g) {
		t.Errorf("the result for %s is %v, which is not valid", write(f), g)
		return
	}
	vars := formula.Free(f)
	for _, v := range formula.Free(g) {
		if !slices.Contains(vars, v) {
			t.Errorf("%s has a free variable %s that %s has not", write(g), v, write(f))
			return
		}
	}
	for _, x := range formula.Symbols(g) {
		if !slices.Contains(formula.Symbols(f), x) {
			t.Errorf("%s has a symbol %v that %s has not", write(g), x, write(f))
			return
		}
	}
	for _, s := range structures {
		a, ok1 := query(t, f, s, vars)
		b, ok2 := query(t, g, s, vars)
		if ok1 && ok2 && a != b {
			t.Errorf("in %v, %s holds for %v: %s, but %s for %s", s, write(f), vars, a, write(g), b)
			return
		}
	}
}

// change is one of the functions that make a formula of a formula.
type change struct {
	name string
	do   func(f api.Formula) (api.Formula, api.Errno)
}

// changes lists them; u, which is no variable of the maker, and D, which is none of its names, stand for what is new.
func changes() []change {
	d := api.Def{Name: "P", Vars: names("x"), Body: bound(api.FSome, "y", rel("D", "x y"))}
	return []change{
		{"Nnf", norm.Nnf},
		{"Apart", norm.Apart},
		{"Rename", func(f api.Formula) (api.Formula, api.Errno) { return norm.Rename(f, "x", "u") }},
		{"Replace", func(f api.Formula) (api.Formula, api.Errno) { return norm.Replace(f, d) }},
		{"Simple", norm.Simple},
		{"Prenex", norm.Prenex},
	}
}

// wantText fails unless a result is the formula of a text.
func wantText(t *testing.T, what string, f api.Formula, e api.Errno, want string) {
	t.Helper()
	if e != api.OK || !formula.Same(f, parse(t, want)) {
		t.Errorf("%s is %s, error %d, instead of %s", what, write(f), e, want)
	}
}

// wantError fails unless a result is this error and nothing else.
func wantError(t *testing.T, what string, f api.Formula, e, want api.Errno) {
	t.Helper()
	if e != want || !formula.Same(f, api.Formula{}) {
		t.Errorf("%s is %s, error %d, instead of error %d", what, write(f), e, want)
	}
}
