package formula_test

import (
	"math/rand"
	"strconv"
	"strings"
	"testing"

	"paraphrast/api"
	"paraphrast/formula"
)

// The builders take lists of names as words, separated by blanks.

func rel(name, args string) api.Formula {
	return api.Formula{Kind: api.FRel, Name: name, Args: strings.Fields(args)}
}

func eq(x, y string) api.Formula {
	return api.Formula{Kind: api.FEq, Args: []string{x, y}}
}

func less(x, y string) api.Formula {
	return api.Formula{Kind: api.FLess, Args: []string{x, y}}
}

func not(kid api.Formula) api.Formula {
	return api.Formula{Kind: api.FNot, Kids: []api.Formula{kid}}
}

func and(kids ...api.Formula) api.Formula {
	return api.Formula{Kind: api.FAnd, Kids: kids}
}

func or(kids ...api.Formula) api.Formula {
	return api.Formula{Kind: api.FOr, Kids: kids}
}

func some(vars string, kid api.Formula) api.Formula {
	return api.Formula{Kind: api.FSome, Vars: strings.Fields(vars), Kids: []api.Formula{kid}}
}

func all(vars string, kid api.Formula) api.Formula {
	return api.Formula{Kind: api.FAll, Vars: strings.Fields(vars), Kids: []api.Formula{kid}}
}

func lfp(name, vars string, kid api.Formula, args string) api.Formula {
	return api.Formula{Kind: api.FLfp, Name: name, Vars: strings.Fields(vars), Kids: []api.Formula{kid}, Args: strings.Fields(args)}
}

func pfp(name, vars string, kid api.Formula, args string) api.Formula {
	return api.Formula{Kind: api.FPfp, Name: name, Vars: strings.Fields(vars), Kids: []api.Formula{kid}, Args: strings.Fields(args)}
}

func tc(vars string, kid api.Formula, args string) api.Formula {
	return api.Formula{Kind: api.FTc, Vars: strings.Fields(vars), Kids: []api.Formula{kid}, Args: strings.Fields(args)}
}

func exists(name string, arity int, kid api.Formula) api.Formula {
	return api.Formula{Kind: api.FSecond, Name: name, Arity: arity, Kids: []api.Formula{kid}}
}

// nested returns a formula of this depth without a name in it.
func nested(depth int) api.Formula {
	f := and()
	for range depth - 1 {
		f = not(f)
	}
	return f
}

// wide returns a formula that contains this number of formulas.
func wide(size int) api.Formula {
	f := or()
	for range size - 1 {
		f.Kids = append(f.Kids, and())
	}
	return f
}

// numbered returns n names that begin with a letter, separated by blanks.
func numbered(letter string, n int) string {
	var list []string
	for i := range n {
		list = append(list, letter+strconv.Itoa(i))
	}
	return strings.Join(list, " ")
}

func equalStrings(a, b []string) bool {
	return strings.Join(a, " ") == strings.Join(b, " ") && len(a) == len(b)
}

// equal is what Same should be, for formulas that are trees.
func equal(f, g api.Formula) bool {
	if f.Kind != g.Kind || f.Arity != g.Arity || f.Name != g.Name || len(f.Kids) != len(g.Kids) {
		return false
	}
	for i := range f.Kids {
		if !equal(f.Kids[i], g.Kids[i]) {
			return false
		}
	}
	return equalStrings(f.Vars, g.Vars) && equalStrings(f.Args, g.Args)
}

func clone(f api.Formula) api.Formula {
	f.Vars = append([]string{}, f.Vars...)
	f.Args = append([]string{}, f.Args...)
	kids := []api.Formula{}
	for _, kid := range f.Kids {
		kids = append(kids, clone(kid))
	}
	f.Kids = kids
	return f
}

// sample lists texts of valid formulas, in their textual form: each kind, alone and within others, and names that are bound again.
func sample() []string {
	return []string{
		"true",
		"false",
		"Q()",
		"E(x y)",
		"x(x x)",
		"T(a b c d e f g h i j k l)",
		"x = y",
		"x < x",
		"abcdefghijkl = Z99999999999",
		"not(E(x y))",
		"not(not(not(false)))",
		"and(P(x))",
		"or(P(x))",
		"and(true, false, x = y)",
		"and(and(x = y, y = z), or(x < y, not(y < z)))",
		"some(x: P(x))",
		"all(x y z: E(x y))",
		"some(x: all(x: some(y: E(x y))))",
		"some(a b c d e f g h i j k l: T(a b c d e f g h i j k l))",
		"lfp(R x y: or(E(x y), some(z: and(E(x z), R(z y)))))(a b)",
		"lfp(R x: R(x))(x)",
		"lfp(R x: not(not(R(x))))(y)",
		"lfp(R x: lfp(R x y: and(R(x y), R(y x)))(x x))(a)",
		"lfp(R x: not(pfp(R x: not(R(x)))(x)))(a)",
		"lfp(R a b c d e f g h i j k l: R(l k j i h g f e d c b a))(a a a a a a a a a a a a)",
		"and(R(a b), lfp(R x: R(x))(a), R(b a))",
		"pfp(R x: not(R(x)))(a)",
		"pfp(R x: lfp(S x: and(not(R(x)), S(x)))(x))(a)",
		"tc(x y: E(x y))(a b)",
		"tc(x y: tc(x y: E(x y))(x y))(x y)",
		"tc(a b c d e f g h i j k l m n o p q r s t u v w x: a = x)(x x x x x x x x x x x x x x x x x x x x x x x x)",
		"exists(R 2: all(x y: R(x y)))",
		"exists(Q 0: or(Q(), not(Q())))",
		"exists(R 12: R(a a a a a a a a a a a a))",
		"exists(R 1: and(R(x), exists(R 0: R()), not(R(y))))",
		"exists(R 1: all(x y: or(not(E(x y)), and(R(x), not(R(y))), and(R(y), not(R(x))))))",
	}
}

// parse returns the formula of a text that must be one.
func parse(t *testing.T, text string) api.Formula {
	t.Helper()
	f, at, e := formula.Parse(text)
	if at != 0 || e != api.OK {
		t.Fatalf("Parse(%q) is error %d at %d", text, e, at)
	}
	return f
}

func samples(t *testing.T) []api.Formula {
	t.Helper()
	var l []api.Formula
	for _, text := range sample() {
		l = append(l, parse(t, text))
	}
	return l
}

// maker makes formulas at random. The arities of names are right in most places only, and negations are anywhere, so that some of the formulas are not valid.
type maker struct{ *rand.Rand }

func (m maker) pick(words string) string {
	l := strings.Fields(words)
	return l[m.Intn(len(l))]
}

// names returns n names out of these, in any order, different or not.
func (m maker) names(words string, n int, different bool) string {
	l := strings.Fields(words)
	m.Shuffle(len(l), func(i, j int) { l[i], l[j] = l[j], l[i] })
	if !different {
		for i := range l {
			l[i] = m.pick(words)
		}
	}
	return strings.Join(l[:n], " ")
}

func (m maker) relation() (string, int) {
	name := m.pick("P P P E E E Q P1")
	arity := map[string]int{"P": 1, "P1": 1, "E": 2}[name]
	if m.Intn(10) == 0 {
		arity = m.Intn(3)
	}
	return name, arity
}

func (m maker) formula(depth int) api.Formula {
	const vars = "x y z P"
	name, arity := m.relation()
	if depth <= 1 {
		switch m.Intn(7) {
		case 0:
			return eq(m.pick(vars), m.pick(vars))
		case 1:
			return less(m.pick(vars), m.pick(vars))
		default:
			return rel(name, m.names(vars, arity, false))
		}
	}
	kid := m.formula(depth - 1 - m.Intn(2))
	n := 1 + m.Intn(3)
	switch m.Intn(11) {
	case 0, 1:
		return not(kid)
	case 2:
		return and([]api.Formula{kid, m.formula(depth - 1), m.formula(depth - 2)}[:m.Intn(4)]...)
	case 3, 4:
		return or(kid, m.formula(depth-1))
	case 5:
		return some(m.names(vars, n, true), kid)
	case 6:
		return all(m.names(vars, n, true), kid)
	case 7:
		n = max(arity, 1)
		return lfp(name, m.names(vars, n, true), kid, m.names(vars, n, false))
	case 8:
		n = max(arity, 1)
		return pfp(name, m.names(vars, n, true), kid, m.names(vars, n, false))
	case 9:
		return tc(m.names(vars, 2, true), kid, m.names(vars, 2, false))
	default:
		return exists(name, arity, kid)
	}
}

// randomFormulas returns formulas of which some are valid and some are not.
func randomFormulas(seed int64, n int) []api.Formula {
	m := maker{rand.New(rand.NewSource(seed))}
	var l []api.Formula
	for range n {
		l = append(l, m.formula(1+m.Intn(8)))
	}
	return l
}

// randomValid returns valid formulas only.
func randomValid(t *testing.T, seed int64, n int) []api.Formula {
	t.Helper()
	var l []api.Formula
	for _, f := range randomFormulas(seed, n) {
		if valid(f) {
			l = append(l, f)
		}
	}
	if len(l) < n/4 {
		t.Fatalf("only %d formulas of %d are valid", len(l), n)
	}
	return l
}
