package plan_test

import (
	"slices"
	"testing"

	"paraphrast/api"
	"paraphrast/formula"
	"paraphrast/plan"
)

func wantBackError(t *testing.T, p api.Plan, want api.Errno) {
	t.Helper()
	f, e := plan.Back(p)
	wantError(t, "Back of "+show(p), zeroFormula(f), e, want)
}

// back returns the formula of a plan that must have one, of the form that the chapter says.
func back(t *testing.T, p api.Plan) api.Formula {
	t.Helper()
	f, e := plan.Back(p)
	if e != api.OK || !formula.Valid(f) {
		t.Fatalf("Back(%s) is %s, error %d", show(p), write(f), e)
	}
	for _, v := range formula.Free(f) {
		if !slices.Contains(numbered("v", width(p)), v) {
			t.Errorf("Back(%s) is %s, which has the free variable %s", show(p), write(f), v)
		}
	}
	for _, x := range formula.Symbols(f) {
		if !slices.ContainsFunc(parts(p), func(q api.Plan) bool { return equal(q, rel(x.Name, x.Arity)) }) {
			t.Errorf("Back(%s) is %s, which has the symbol %v", show(p), write(f), x)
		}
	}
	visit(f, func(g api.Formula) {
		if slices.Contains([]int{api.FLfp, api.FPfp, api.FTc, api.FSecond}, g.Kind) {
			t.Errorf("Back(%s) is %s, which is not first-order", show(p), write(f))
		}
	})
	return f
}

// visit calls see for f and each formula in it.
func visit(f api.Formula, see func(api.Formula)) {
	see(f)
	for _, kid := range f.Kids {
		visit(kid, see)
	}
}

// wantBack fails unless the formula of p has the value of p in some structures, and so has the plan of that formula. It returns whether there is such a plan.
func wantBack(t *testing.T, p api.Plan, structures []api.Structure) bool {
	t.Helper()
	f := back(t, p)
	vars := numbered("v", width(p))
	q, e := plan.From(f, vars)
	if e != api.OK && e != api.ErrSize {
		t.Errorf("From(%s) is error %d", write(f), e)
	}
	for _, s := range structures {
		want := value(p, s)
		if l, ok := query(t, f, s, vars); ok && !equalTuples(l, want) {
			t.Errorf("in %v, %s is %v, but %s holds for %v", s, show(p), want, write(f), l)
		}
		if e != api.OK {
			continue
		}
		if l, g := plan.Run(q, s); g != api.ErrSize && (g != api.OK || !equalTuples(l, want)) {
			t.Errorf("in %v, %s is %v, but From of Back %v, error %d", s, show(p), want, l, g)
		}
	}
	return e == api.OK
}

func someStructures(m maker) []api.Structure {
	return []api.Structure{m.structure(1), m.structure(2), m.structure(2), m.structure(3), m.structure(3)}
}

func TestBack(t *testing.T) {
	m := newMaker(6)
	e, p, q, x := rel("E", 2), rel("P", 1), rel("Q", 0), rel("T", 3)
	for _, c := range []api.Plan{
		e, q, all(0), all(2), all(4),
		same(0, 1, e), same(1, 1, e), same(2, 0, x), same(0, 1, same(1, 2, x)), less(0, 1, e), less(1, 1, e), less(2, 1, x),
		join(e, p), join(p, e), join(q, p), join(e, e), join(all(1), p), join(p, all(1)),
		project(e), project(e, 0), project(e, 1), project(e, 1, 0), project(e, 0, 1), project(p, 0, 0), project(p, 0, 0, 0), project(e, 0, 1, 0, 1), project(x, 2, 2), project(q), project(all(0)), project(all(3)), project(all(3), 1),
		project(project(e, 1, 1, 0), 2, 1), project(project(x, 2, 1), 1), project(project(p, 0, 0), 1), project(project(e), nil...),
		project(same(1, 2, join(e, e)), 0, 3), project(same(0, 1, e), 0, 1), project(same(0, 1, e), 1, 0), project(same(0, 1, e), 1), project(same(0, 1, e)), project(less(0, 1, e), 1), project(less(0, 2, same(1, 2, x)), 0, 2), project(less(0, 2, same(1, 2, x)), 0),
		project(same(0, 3, same(1, 4, join(same(0, 1, x), same(1, 0, e)))), 4), project(minus(same(0, 1, e), e)), project(minus(e, same(0, 1, e)), 0), project(union(same(0, 1, e), e), 1), project(union(same(0, 1, e), same(0, 1, all(2))), 1),
		project(same(0, 1, project(e, 1, 0)), 0), project(same(0, 3, join(e, join(p, p))), 1, 3), project(join(same(1, 0, e), same(1, 2, x)), 0, 1, 2, 3, 4), project(join(same(1, 0, e), same(1, 2, x)), 4, 0),
		union(e, same(0, 1, all(2))), union(union(p, project(e, 0)), project(e, 1)), union(q, all(0)), union(join(p, p), e), minus(e, e), minus(all(1), p), minus(all(0), q), minus(minus(e, all(2)), e), minus(e, minus(e, e)), minus(p, project(e, 1)), minus(join(p, p), union(e, project(e, 1, 0))),
		minus(all(2), project(join(p, p), 1, 0)), project(minus(all(2), e), 1), minus(all(1), project(minus(all(2), e), 0)),
	} {
		wantBack(t, c, someStructures(m))
	}
}

// TestBackAtRandom is promise P5.1 for Back, and for From of Back.
func TestBackAtRandom(t *testing.T) {
	m := newMaker(7)
	again := 0
	for _, p := range m.plans(2500) {
		if wantBack(t, p, someStructures(m)[:4]) {
			again++
		}
	}
	if again < 2000 {
		t.Errorf("only %d plans were found again", again)
	}
}

// TestFromOfExamples is that From makes plans of formulas of Back where few variables suffice.
func TestFromOfExamples(t *testing.T) {
	m := newMaker(8)
	e := rel("E", 2)
	two := project(same(1, 2, join(e, e)), 0, 3)
	nine, ring := e, e
	for i := range 8 {
		nine = project(same(1, 2, join(nine, e)), 0, 3)
		ring = project(less(0, 2, same(2, 3, same(1+i%2, 2, join(ring, e)))), 2, 0)
	}
	for _, p := range []api.Plan{two, nine, ring, project(all(12), 3), minus(all(1), project(two, 0)), project(less(0, 5, join(same(0, 1, e), same(1, 3, join(e, e)))), 4)} {
		if !wantBack(t, p, someStructures(m)) {
			t.Errorf("From of Back of %s is an error", show(p))
		}
	}
}

// TestBackIsValid has plans of at most 40 plans that are at most 12 deep, with results that are as large and deep as possible.
func TestBackIsValid(t *testing.T) {
	zeros := make([]int, 12)
	x := rel("T", 12)
	for _, step := range []func(p api.Plan) api.Plan{
		func(p api.Plan) api.Plan { return minus(x, p) },
		func(p api.Plan) api.Plan { return minus(p, x) },
		func(p api.Plan) api.Plan { return project(p, zeros...) },
		func(p api.Plan) api.Plan { return project(p, 1, 2, 3, 4, 5, 6, 7, 8, 9, 10, 11, 11) },
		func(p api.Plan) api.Plan { return union(x, minus(x, p)) },
		func(p api.Plan) api.Plan { return project(minus(x, p), zeros...) },
		func(p api.Plan) api.Plan { return union(x, project(p, zeros...)) },
		func(p api.Plan) api.Plan { return same(0, 11, project(p, zeros...)) },
		func(p api.Plan) api.Plan { return less(11, 0, minus(x, p)) },
		func(p api.Plan) api.Plan { return minus(x, minus(p, project(all(1), zeros...))) },
		func(p api.Plan) api.Plan { return join(project(minus(p, x)), p) },
	} {
		p := x
		for q := step(p); depth(q) <= 12 && len(parts(q)) <= 40; q = step(p) {
			p = q
		}
		back(t, p)
	}
	m := newMaker(9)
	for range 300 {
		p := m.plan(12, m.Intn(5))
		if len(parts(p)) <= 40 && depth(p) <= 12 {
			back(t, p)
		}
	}
}

func TestBackErrors(t *testing.T) {
	for _, p := range []api.Plan{{}, all(13), {Kind: api.PKinds}, same(0, 2, rel("E", 2)), union(rel("P", 1), rel("E", 2)), chain(1000, all(1))} {
		wantBackError(t, p, api.ErrForm)
	}
	p := rel("P", 1)
	for range 100 {
		p = minus(rel("P", 1), p)
	}
	wantBackError(t, p, api.ErrSize)
	back(t, leaves(2000, rel("P", 1)))
	back(t, chain(999, rel("P", 1)))
	wantBackError(t, leaves(500, project(rel("P", 1), make([]int, 12)...)), api.ErrSize)
	wantBackError(t, project(leaves(500, project(rel("P", 1), make([]int, 12)...)), 3), api.ErrSize)
}
