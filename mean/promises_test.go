package mean_test

import (
	"slices"
	"strings"
	"testing"

	"paraphrast/api"
	"paraphrast/formula"
	"paraphrast/mean"
	"paraphrast/shape"
)

// TestLogic is promise P3.1.
func TestLogic(t *testing.T) {
	m := newMaker(2)
	for range 150 {
		f, g, s := m.valid(500), m.valid(500), m.structure(1+m.Intn(4))
		law := func(a, b api.Formula) {
			t.Helper()
			wantSame(t, a, b, s, variables)
			wantSame(t, not(a), not(b), s, variables)
			if l := query(t, a, s, variables); len(l) > 0 {
				tuple := l[m.Intn(len(l))]
				wantHolds(t, a, s, variables, tuple, true)
				wantHolds(t, not(a), s, variables, tuple, false)
			}
		}
		law(not(and(f, g)), or(not(f), not(g)))
		law(not(or(f, g)), and(not(f), not(g)))
		law(not(not(f)), f)
		law(and(f, g), and(g, f))
		law(or(f, g), or(g, f))
		law(and(f, or(f, g)), f)
		law(or(f, not(f)), and())
		law(and(f, not(f)), or())
		law(not(some("x", f)), all("x", not(f)))
		law(not(all("x y", f)), some("x y", not(f)))
		law(all("x", and(f, g)), and(all("x", f), all("x", g)))
		law(some("x", or(f, g)), or(some("x", f), some("x", g)))
		law(all("x", all("y", f)), all("y", all("x", f)))
		law(some("x y z", f), some("z", some("x", some("y", f))))
		law(all("w y", f), all("w", all("y", f)))
		law(all("x", some("x", f)), some("x", f))
		law(or(some("x", all("y", f)), all("y", some("x", f))), all("y", some("x", f)))
	}
}

// mapped returns the tuples for which f holds when name is the relation l.
func mapped(t *testing.T, f api.Formula, s api.Structure, name, vars string, l [][]int) [][]int {
	t.Helper()
	return query(t, f, with(s, name, len(names(vars)), l), vars)
}

func contains(l, part [][]int) bool {
	return !slices.ContainsFunc(part, func(tuple []int) bool {
		_, is := slices.BinarySearchFunc(l, tuple, slices.Compare[[]int])
		return !is
	})
}

// positiveIn makes a formula that is positive in the new name R, with an arity, and has no free variables but vars.
func (m maker) positiveIn(vars string) api.Formula {
	for {
		f := m.formula(2 + m.Intn(4))
		old := []string{"P", "E"}[len(names(vars))-1]
		f = renamed(f, old, "R")
		for _, v := range names(variables) {
			if !slices.Contains(names(vars), v) {
				f = some(v, f)
			}
		}
		is, e := formula.Positive(f, "R")
		c, _ := mean.Cost(f, 3)
		if e == api.OK && is && c < 20000 && slices.Contains(formula.Symbols(f), api.Symbol{Name: "R", Arity: len(names(vars))}) {
			return f
		}
	}
}

// renamed calls the relation with the name old by another name, bound or not.
func renamed(f api.Formula, old, name string) api.Formula {
	if f.Name == old {
		f.Name = name
	}
	kids := []api.Formula{}
	for _, kid := range f.Kids {
		kids = append(kids, renamed(kid, old, name))
	}
	f.Kids = kids
	return f
}

// TestFixed is promise P3.2, for all relations on few elements.
func TestFixed(t *testing.T) {
	m := newMaker(3)
	for i := range 300 {
		vars, n := "x", 1+m.Intn(4)
		if i%3 == 0 {
			vars, n = "x y", 1+m.Intn(2)
		}
		f, s := m.positiveIn(vars), m.structure(n)
		lfp := query(t, defined(api.FLfp, "R", vars, f, vars), s, vars)
		if again := mapped(t, f, s, "R", vars, lfp); writeTuples(again) != writeTuples(lfp) {
			t.Errorf("in %v, %s maps its least fixed point %v to %v", s, write(f), lfp, again)
		}
		for _, l := range subsets(tuples(n, len(names(vars)))) {
			slices.SortFunc(l, slices.Compare[[]int])
			if contains(l, mapped(t, f, s, "R", vars, l)) && !contains(l, lfp) {
				t.Errorf("in %v, %s maps %v into itself, but has the least fixed point %v", s, write(f), l, lfp)
			}
		}
	}
}

// TestFixedFormulas has the least fixed point as a part of a larger formula: it may be replaced by what it stands for.
func TestFixedFormulas(t *testing.T) {
	m := newMaker(4)
	for range 200 {
		f, g, s := m.positiveIn("x"), m.valid(1000), m.structure(1+m.Intn(3))
		lfp := defined(api.FLfp, "R", "x", f, "x")
		l := query(t, lfp, s, "x")
		a := query(t, some("z", and(g, lfp)), s, "x y w")
		b := query(t, some("z", and(g, rel("R", "x"))), with(s, "R", 1, l), "x y w")
		if writeTuples(a) != writeTuples(b) {
			t.Errorf("in %v, some(z: and(%s, %s)) holds for %v instead of %v", s, write(g), write(lfp), a, b)
		}
	}
}

// TestMonotone is promise P3.3.
func TestMonotone(t *testing.T) {
	m := newMaker(5)
	tested := 0
	for tested < 1500 {
		f, s, x := m.valid(2000), m.structure(1+m.Intn(3)), m.symbol()
		if is, _ := formula.Positive(f, x.Name); !is || !slices.Contains(formula.Symbols(f), x) {
			continue
		}
		tested++
		before := query(t, f, s, variables)
		for _, tuple := range tuples(s.Size, x.Arity) {
			grown, e := shape.Put(s, x.Name, tuple, true)
			if after := query(t, f, grown, variables); e != api.OK || !contains(after, before) {
				t.Errorf("with %v in %s of %v, %s holds for %v instead of %v", tuple, x.Name, s, write(f), after, before)
			}
		}
	}
}

// TestConnected is promise P3.4, for steps between elements and between pairs.
func TestConnected(t *testing.T) {
	m := newMaker(6)
	for range 200 {
		f, s := m.valid(500), m.structure(1+m.Intn(3))
		wantConnected(t, f, s, "x", "y", "u", "v", "o")
		wantConnected(t, f, s, "x y", "z w", "u p", "v q", "o r")
	}
}

// wantConnected fails unless the transitive closure of f as steps from the variables from to the variables to is what it should be. The other lists are variables that are not in f.
func wantConnected(t *testing.T, f api.Formula, s api.Structure, from, to, a, b, middle string) {
	t.Helper()
	vars := from + " " + to
	for _, v := range names(variables) {
		if !strings.Contains(vars, v) {
			f = all(v, f)
		}
	}
	k := len(names(from))
	closure := tc(vars, f, a+" "+b)
	// A step is a closure's kid with other names for its variables.
	step := func(x, y string) api.Formula {
		var same []api.Formula
		for i, v := range names(vars) {
			same = append(same, api.Formula{Kind: api.FEq, Args: []string{v, names(x + " " + y)[i]}})
		}
		return some(vars, and(append(same, f)...))
	}
	var equals []api.Formula
	for i, v := range names(a) {
		equals = append(equals, api.Formula{Kind: api.FEq, Args: []string{v, names(b)[i]}})
	}
	further := some(middle, and(rel("R", a+" "+middle), step(middle, b)))
	lfp := defined(api.FLfp, "R", a+" "+b, or(and(equals...), further), a+" "+b)
	wantSame(t, closure, lfp, s, a+" "+b)

	l := query(t, closure, s, a+" "+b)
	if steps := query(t, f, s, vars); !contains(l, steps) {
		t.Errorf("in %v, %s holds for %v, but there are the steps %v", s, write(closure), l, steps)
	}
	for _, x := range tuples(s.Size, k) {
		if !contains(l, [][]int{slices.Concat(x, x)}) {
			t.Errorf("in %v, %s is not reflexive", s, write(closure))
		}
	}
	for _, x := range l {
		for _, y := range l {
			if slices.Equal(x[k:], y[:k]) && !contains(l, [][]int{slices.Concat(x[:k], y[k:])}) {
				t.Errorf("in %v, %s is not transitive", s, write(closure))
			}
		}
	}
}

// TestLeastConnected is promise P3.4 on two elements and three: no smaller relation is reflexive, transitive and contains the steps.
func TestLeastConnected(t *testing.T) {
	closed := parse(t, "and(all(x: R(x x)), all(x y z: or(not(R(x y)), not(R(y z)), R(x z))), all(x y: or(not(E(x y)), R(x y))))")
	for n := 1; n <= 3; n++ {
		for _, steps := range subsets(tuples(n, 2)) {
			slices.SortFunc(steps, slices.Compare[[]int])
			s := with(api.Structure{Size: n}, "E", 2, steps)
			l := query(t, parse(t, "tc(x y: E(x y))(a b)"), s, "a b")
			wantHolds(t, closed, with(s, "R", 2, l), "", nil, true)
			for i := range l {
				smaller := slices.Delete(slices.Clone(l), i, i+1)
				wantHolds(t, closed, with(s, "R", 2, smaller), "", nil, false)
			}
		}
	}
}

// TestIsomorphic is promise P3.5.
func TestIsomorphic(t *testing.T) {
	m := newMaker(7)
	tested := 0
	for tested < 1500 {
		f, s := m.valid(2000), m.structure(1+m.Intn(4))
		if has(f, api.FLess) {
			continue
		}
		tested++
		perm := m.Perm(s.Size)
		permuted, _ := shape.Permute(s, perm)
		var want [][]int
		for _, tuple := range query(t, f, s, variables) {
			var image []int
			for _, x := range tuple {
				image = append(image, perm[x])
			}
			want = append(want, image)
		}
		slices.SortFunc(want, slices.Compare[[]int])
		if l := query(t, f, permuted, variables); writeTuples(l) != writeTuples(want) {
			t.Errorf("%s holds for %v in %v, but for %v when its elements are permuted by %v", write(f), want, s, l, perm)
		}
	}
}

// TestLocalNames is promise P3.6.
func TestLocalNames(t *testing.T) {
	m := newMaker(8)
	for range 700 {
		f, s := m.valid(2000), m.structure(1+m.Intn(3))
		other := m.structure(s.Size)
		for i, x := range symbols() {
			if slices.Contains(formula.Symbols(f), x) {
				other.Rels[i] = s.Rels[i]
			}
		}
		free := formula.Free(f)
		vars := strings.Join(free, " ")
		l := query(t, f, s, vars)
		fewer, _ := shape.Keep(s, formula.Symbols(f))
		m.Shuffle(len(fewer.Rels), func(i, j int) { fewer.Rels[i], fewer.Rels[j] = fewer.Rels[j], fewer.Rels[i] })
		for _, q := range []api.Structure{other, fewer} {
			if changed := query(t, f, q, vars); writeTuples(l) != writeTuples(changed) {
				t.Errorf("%s holds for %v in %v, but for %v in %v", write(f), l, s, changed, q)
			}
		}
		for _, tuple := range tuples(s.Size, 4) {
			var at []int
			for _, v := range free {
				at = append(at, tuple[slices.Index(names(variables), v)])
			}
			_, is := slices.BinarySearchFunc(l, at, slices.Compare[[]int])
			wantHolds(t, f, s, variables+" more", append(tuple, s.Size-1), is)
			wantHolds(t, f, s, vars, at, is)
		}
	}
}
