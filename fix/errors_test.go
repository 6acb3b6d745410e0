package fix_test

import (
	"math"
	"slices"
	"strings"
	"testing"

	"paraphrast/api"
	"paraphrast/fix"
	"paraphrast/mean"
)

// broken lists lists of definitions that are no systems.
func broken(t *testing.T) [][]api.Def {
	ok := def(t, "R x: P(x)")
	change := func(do func(d *api.Def)) []api.Def {
		d := def(t, "R x: P(x)")
		do(&d)
		return []api.Def{d}
	}
	l := [][]api.Def{
		nil,
		{},
		{{}},
		make([]api.Def, 9),
		slices.Repeat([]api.Def{ok}, 2),
		slices.Repeat([]api.Def{ok}, 1<<16),
		change(func(d *api.Def) { d.Name = "" }),
		change(func(d *api.Def) { d.Name = "or" }),
		change(func(d *api.Def) { d.Name = "1" }),
		change(func(d *api.Def) { d.Name = "R23456789ABCD" }),
		change(func(d *api.Def) { d.Name = string(make([]byte, 1<<20)) }),
		change(func(d *api.Def) { d.Vars = append(d.Vars, "x") }),
		change(func(d *api.Def) { d.Vars = append(d.Vars, "") }),
		change(func(d *api.Def) { d.Vars = append(d.Vars, "not") }),
		change(func(d *api.Def) { d.Vars = append(d.Vars, numbered("y", 12)...) }),
		change(func(d *api.Def) { d.Vars = numbered("x", 1<<16) }),
		change(func(d *api.Def) { d.Vars, d.Body = nil, and() }),
		change(func(d *api.Def) { d.Vars = names("y") }),
		change(func(d *api.Def) { d.Body = api.Formula{} }),
		change(func(d *api.Def) { d.Body = or(d.Body, not(api.Formula{})) }),
		change(func(d *api.Def) { d.Body = and(d.Body, rel("P", "x x")) }),
		change(func(d *api.Def) { d.Body = or(repeat(4000, d.Body)...) }),
		change(func(d *api.Def) { d.Body = deep(60, d.Body) }),
		change(func(d *api.Def) { d.Body.Kids = make([]api.Formula, 1<<20) }),
	}
	for _, texts := range [][]string{
		{"R x: P(y)"},
		{"R x: lfp(S x: P(x))(y)"},
		{"R x y: E(x z)"},
		// The names of the system have as many Args as their definitions have Vars.
		{"R x: R(x x)"},
		{"R x: R()"},
		{"R x y: R(x)"},
		{"R x: S(x)", "S x y: R(x)"},
		{"R x: S(x x)", "S x: P(x)"},
		{"S x: P(x)", "R x: S()"},
		// Bodies are positive in all of them.
		{"R x: not(R(x))"},
		{"R x: or(R(x), all(y: or(not(R(y)), P(y))))"},
		{"R x: pfp(S x: R(x))(x)"},
		{"R x: not(S(x))", "S x: P(x)"},
		{"S x: P(x)", "R x: not(S(x))"},
		{"R x: R(x)", "S x: not(S(x))"},
		{"R x: lfp(T y: pfp(U z: S(z))(y))(x)", "S x: P(x)"},
		{"R x: not(not(not(S(x))))", "S x: R(x)"},
		// Other names have the same arity in all Bodies.
		{"R x: P(x)", "S x: P(x x)"},
		{"R x: P(x)", "S x: R(x)", "T x: or(S(x), P())"},
		{"R x: E(x x)", "S x: lfp(P y: E(y))(x)"},
		// Names are different.
		{"R x: P(x)", "R y: P(y)"},
		{"R x: P(x)", "S x: P(x)", "R x y: P(x)"},
		{"A x: true", "B x: true", "C x: true", "D x: true", "E x: true", "F x: true", "G x: true", "H x: true", "I x: true"},
	} {
		l = append(l, system(t, texts...))
	}
	return l
}

func TestSystems(t *testing.T) {
	s := structure(t, "2; P/1 1; E/2 0,1")
	for _, defs := range broken(t) {
		wantErrors(t, defs, s, api.ErrForm)
		wantErrors(t, defs, api.Structure{}, api.ErrForm)
	}
	for _, texts := range [][]string{
		{"A x: true", "B x: true", "C x: true", "D x: true", "G x: true", "F x: true", "H x: true", "I x: true"},
		{"R x: not(not(R(x)))"},
		{"R x: not(all(y: not(S(y))))", "S x: not(and(not(R(x)), not(S(x))))"},
		{"R x: pfp(S x: not(S(x)))(x)", "S x: P(x)"},
		{"R x: lfp(R x y: R(x y))(x x)"},
		{"R x: exists(R 0: not(R()))"},
		{"R x: exists(S 0: not(S()))", "S x: P(x)"},
		{"R x: P(x)", "S x: lfp(P y z: P(y z))(x x)"},
		{"R2345678901A y: P(y)"},
	} {
		solve(t, system(t, texts...), s)
	}
	solve(t, []api.Def{{Name: "R", Vars: numbered("x", 12), Body: and()}}, s)
	solve(t, []api.Def{{Name: "R", Vars: names("x"), Body: deep(59, rel("R", "x"))}}, s)
	solve(t, []api.Def{{Name: "R", Vars: names("x"), Body: or(repeat(3999, rel("R", "x"))...)}}, s)
}

func TestStructures(t *testing.T) {
	for _, s := range []api.Structure{
		{},
		{Size: -1},
		{Size: 65},
		{Size: 2, Rels: make([]api.Rel, 9)},
		{Size: 2, Rels: []api.Rel{{Name: "P", Arity: 1, Tuples: [][]int{{2}}}}},
		{Size: 2, Rels: []api.Rel{{Name: "P", Arity: 1, Tuples: [][]int{{1}, {0}}}}},
		{Size: 2, Rels: []api.Rel{{Name: "P", Arity: 1}, {Name: "P", Arity: 1}}},
		{Size: 2, Rels: []api.Rel{{Name: "not", Arity: 1}}},
		{Size: 2, Rels: []api.Rel{{Name: "P", Arity: 13}}},
		{Size: math.MaxInt, Rels: make([]api.Rel, 1<<20)},
	} {
		wantErrors(t, system(t, "R x: true"), s, api.ErrForm)
		wantErrors(t, system(t, "R x: Q()"), s, api.ErrForm)
	}
}

func TestNames(t *testing.T) {
	s := structure(t, "2; P/1 1; E/2 0,1; R/2; S/1 0")
	for _, texts := range [][]string{
		{"R x: Q()"},
		{"R x: P()"},
		{"R x: P(x x)"},
		{"R x: or(P(x), E(x))"},
		{"R x: S(x x)"},
		{"A x: R(x)"},
		{"A x: P(x)", "B x: T(x)"},
		{"A x: T(x)", "B x: A(x)"},
		{"A x: or(true, T(x))"},
		{"A x: or(lfp(T y: T(y))(x), T(x))"},
	} {
		wantErrors(t, system(t, texts...), s, api.ErrName)
	}
	for _, texts := range [][]string{
		{"R x: or(R(x), P(x))"},
		{"R x: S(x)", "S x: P(x)"},
		{"S x y: E(y x)"},
		{"A x: lfp(Q y: or(Q(y), P(y)))(x)"},
	} {
		solve(t, system(t, texts...), s)
	}
}

// costing returns a formula with this cost for n elements, which is soon evaluated.
func costing(n, cost int) api.Formula {
	f := and()
	cost--
	for k := 12; k > 0; k-- {
		part := some(strings.Join(numbered("v", k), " "), and())
		for c, _ := mean.Cost(part, n); cost >= c; cost -= c {
			f.Kids = append(f.Kids, part)
		}
	}
	f.Kids = append(f.Kids, repeat(cost, and())...)
	return f
}

// TestCost has fixed points whose cost is just below the limit, or as large.
func TestCost(t *testing.T) {
	for _, c := range []struct{ size, vars, most int }{
		{2, 12, 1<<16 - 1},
		{64, 2, 1<<16 - 1},
		{3, 7, 229880},
		{5, 5, 112589},
		{2, 11, 1<<18 - 1},
	} {
		vars := numbered("x", c.vars)
		words := strings.Join(vars, " ")
		s := api.Structure{Size: c.size}
		for cost := c.most - 1; cost <= c.most+2; cost++ {
			d := api.Def{Name: "R", Vars: vars, Body: costing(c.size, cost)}
			if whole, e := mean.Cost(lfp("R", words, d.Body, words), c.size); e != api.OK || (whole == api.MaxCost) != (cost > c.most) {
				t.Fatalf("for %d elements, a Body of cost %d makes a cost of %d, error %d", c.size, cost, whole, e)
			}
			if cost > c.most {
				wantErrors(t, []api.Def{d}, s, api.ErrSize)
				wantErrors(t, []api.Def{def(t, "S x: true"), d}, s, api.ErrSize)
			} else if n := len(solve(t, []api.Def{d}, s)[0].Tuples); n != len(tuples(c.size, c.vars)) {
				t.Errorf("for %d elements, there are %d tuples", c.size, n)
			}
		}
	}
	// The cost of the Body alone is the limit; that of the fixed point would not be an int.
	d := api.Def{Name: "R", Vars: names("x y"), Body: and()}
	for range 5 {
		d.Body = some(strings.Join(numbered("z", 12), " "), d.Body)
	}
	wantErrors(t, []api.Def{d}, api.Structure{Size: 64}, api.ErrSize)
	wantErrors(t, []api.Def{d}, api.Structure{Size: 2}, api.ErrSize)
	solve(t, []api.Def{d}, api.Structure{Size: 1})
}

// TestCostOfOneElement has a Body whose cost is one less than the limit, to which the fixed point adds one, and a Body that costs one less.
func TestCostOfOneElement(t *testing.T) {
	s := api.Structure{Size: 1}
	guesses := and() // of cost 1, 3, 7 and so on
	body := and(and())
	for range 38 {
		guesses = api.Formula{Kind: api.FSecond, Name: "A", Kids: []api.Formula{guesses}}
		body = and(guesses, body)
	}
	d := api.Def{Name: "R", Vars: names("x"), Body: body}
	if cost, e := mean.Cost(body, 1); cost != api.MaxCost-2 || e != api.OK {
		t.Fatalf("the cost is %d, error %d", cost, e)
	}
	solve(t, []api.Def{d}, s)
	d.Body = and(body)
	wantErrors(t, []api.Def{d}, s, api.ErrSize)
}

// TestCells has the numbers of variables up to which relations have at most 4096 tuples.
func TestCells(t *testing.T) {
	for size, k := range map[int]int{1: 12, 2: 12, 3: 7, 4: 6, 5: 5, 8: 4, 9: 3, 16: 3, 17: 2, 64: 2} {
		s := api.Structure{Size: size}
		d := api.Def{Name: "R", Vars: numbered("x", k), Body: and()}
		if l := solve(t, []api.Def{d}, s); !equalTuples(l[0].Tuples, tuples(size, k)) {
			t.Errorf("with %d elements and %d variables, there are %d tuples", size, k, len(l[0].Tuples))
		}
		if k < 12 {
			d.Vars = numbered("x", k+1)
			wantErrors(t, []api.Def{d}, s, api.ErrSize)
			wantErrors(t, []api.Def{def(t, "S x: true"), d}, s, api.ErrSize)
			wantErrors(t, []api.Def{d, def(t, "S x: true")}, s, api.ErrSize)
		}
	}
}

// TestSymbols has Bodies with eight symbols, and with nine.
func TestSymbols(t *testing.T) {
	s := structure(t, "2; A/1 0; B/1; C/1; D/1; E/1; F/1; G/1; H/1")
	const seven = "A(x), B(x), C(x), D(x), E(x), F(x), G(x)"
	solve(t, system(t, "R x: or("+seven+", H(x))"), s)
	solve(t, system(t, "R x: or("+seven+", R(x))"), s)
	solve(t, system(t, "R x: or("+seven+", S(x))", "S x: or("+seven+", R(x))"), s)
	solve(t, system(t, "R x: or("+seven+", H(x), lfp(S x: S(x))(x))"), s)
	solve(t, system(t, "H x: or("+seven+", H(x))"), s)
	wantErrors(t, system(t, "R x: or("+seven+", H(x), R(x))"), s, api.ErrSize)
	wantErrors(t, system(t, "R x: or("+seven+", R(x), S(x))", "S x: A(x)"), s, api.ErrSize)
	wantErrors(t, system(t, "R x: A(x)", "S x: or("+seven+", H(x), R(x))"), s, api.ErrSize)
	wantErrors(t, system(t, "R x: or("+seven+", H(x), I(x))"), s, api.ErrName)
}

// counting is a partial fixed point that counts from 0 on, without an end.
const counting = "pfp(N a: or(and(N(a), some(b: and(b < a, not(N(b))))), and(not(N(a)), all(b: or(not(b < a), N(b))))))(x)"

// TestQuerySize has Bodies for which mean.Query returns ErrSize.
func TestQuerySize(t *testing.T) {
	s := structure(t, "17; P/1 1; E/2 0,1")
	for _, body := range []string{
		"exists(A 1: true)",
		"or(P(x), not(exists(A 1: true)))",
		"lfp(A a b c: true)(x x x)",
		"pfp(A a b c: false)(x x x)",
		"tc(a b c d e f: true)(x x x x x x)",
		"some(a b c d e f g h i j k l: true)",
	} {
		wantErrors(t, system(t, "R x: "+body), s, api.ErrSize)
		wantErrors(t, system(t, "S x: P(x)", "R x: "+body), s, api.ErrSize)
		wantErrors(t, system(t, "R x: and(R(x), "+body+")"), s, api.ErrSize)
		solve(t, system(t, "R x: "+body), structure(t, "1; P/1; E/2"))
	}
	if _, e := mean.Query(parse(t, counting), s, names("x")); e != api.ErrSize {
		t.Fatalf("Query of %s is error %d", counting, e)
	}
	wantErrors(t, system(t, "R x: "+counting), s, api.ErrSize)
	wantErrors(t, system(t, "R x: or(P(x), "+counting+")"), s, api.ErrSize)
	// Whether this is too large may depend on how far Query evaluates it, but all functions must say the same.
	defs := system(t, "R x: or(P(x), and(some(y: R(y)), "+counting+"))")
	if _, e := fix.Solve(defs, s); e == api.OK {
		t.Errorf("%s is evaluated", writeDefs(defs))
	}
	wantErrors(t, defs, s, api.ErrSize)
}

// TestFirstError is rule R2: calls with all selections of errors return the first one.
func TestFirstError(t *testing.T) {
	for mistakes := range 1 << 5 {
		made := func(i int) bool { return mistakes>>i&1 == 1 }
		text, s, want, tuple := "P(x)", structure(t, "17; P/1 1"), api.OK, []int{1}
		if made(4) {
			tuple = []int{17}
		}
		if made(3) {
			text, want = "exists(A 1: "+text+")", api.ErrSize
		}
		if made(2) {
			text, want = "or(T(), "+text+")", api.ErrName
		}
		if made(1) {
			s, want = api.Structure{Size: 2, Rels: make([]api.Rel, 1)}, api.ErrForm
		}
		if made(0) {
			text, want = "not(R(x))", api.ErrForm
		}
		defs := system(t, "R x: "+text)
		if want != api.OK {
			wantErrors(t, defs, s, want)
			continue
		}
		if made(4) {
			want = api.ErrArg
		}
		if n, e := fix.Enters(defs[0], s, tuple); e != want || n != map[api.Errno]int{api.OK: 1}[want] {
			t.Errorf("Enters(%s, %v) is %d, error %d instead of %d", writeDefs(defs), tuple, n, e, want)
		}
	}
	wide := numbers(t, 12, 12)
	wantOneError(t, wide, 0, api.ErrSize)
	wantOneError(t, wide, 2, api.ErrArg)
	wide[0].Body = rel("D1", "x0")
	wantOneError(t, wide, 2, api.ErrForm)
}
