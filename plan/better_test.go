package plan_test

import (
	"slices"
	"testing"

	"paraphrast/api"
	"paraphrast/plan"
)

// wantProperties fails unless a result of Better has the form that the chapter promises.
func wantProperties(t *testing.T, p, q api.Plan) {
	t.Helper()
	if !plan.Valid(q) || plan.Width(q) != plan.Width(p) || plan.Size(q) > plan.Size(p) {
		t.Errorf("Better(%s) is %s", show(p), show(q))
		return
	}
	for _, r := range parts(q) {
		if r.Kind == api.PProject && r.Kids[0].Kind == api.PProject {
			t.Errorf("Better(%s) is %s, where a projection follows another one", show(p), show(q))
		}
		if r.Kind == api.PUnion && equal(r.Kids[0], r.Kids[1]) {
			t.Errorf("Better(%s) is %s, where two kids are the same", show(p), show(q))
		}
		if r.Kind == api.PProject && slices.Equal(r.Cols, inOrder(width(r.Kids[0]))) {
			t.Errorf("Better(%s) is %s, where a projection leaves its kid as it is", show(p), show(q))
		}
		if r.Kind == api.PRel && !slices.ContainsFunc(parts(p), func(s api.Plan) bool { return equal(r, s) }) {
			t.Errorf("Better(%s) is %s, which has another relation", show(p), show(q))
		}
	}
}

func inOrder(n int) []int {
	var l []int
	for i := range n {
		l = append(l, i)
	}
	return l
}

// better returns what Better does, which must be right in some structures.
func better(t *testing.T, p api.Plan, structures []api.Structure) api.Plan {
	t.Helper()
	q, e := plan.Better(p)
	if e != api.OK {
		t.Fatalf("Better(%s) is error %d", show(p), e)
	}
	wantProperties(t, p, q)
	for _, s := range structures {
		if want, e := plan.Run(p, s); e == api.OK {
			l, g := plan.Run(q, s)
			wantTuples(t, "Run of "+show(q)+", which is Better of "+show(p), l, g, want)
		}
	}
	return q
}

func wantBetter(t *testing.T, p, want api.Plan) {
	t.Helper()
	q := better(t, p, someStructures(newMaker(10)))
	if !equal(q, want) {
		t.Errorf("Better(%s) is %s instead of %s", show(p), show(q), show(want))
	}
}

func TestBetter(t *testing.T) {
	e, p, x, q := rel("E", 2), rel("P", 1), rel("T", 3), rel("Q", 0)
	for _, c := range []api.Plan{e, q, all(3), join(e, p), project(e, 1, 0), project(e, 0), project(e), union(e, all(2)), minus(e, e), project(p, 0, 0), same(0, 0, e)} {
		wantBetter(t, c, c)
	}
	wantBetter(t, project(e, 0, 1), e)
	wantBetter(t, project(q), q)
	wantBetter(t, project(x, 0, 1), project(x, 0, 1))
	wantBetter(t, project(x, 0, 1, 2, 2), project(x, 0, 1, 2, 2))
	wantBetter(t, project(x, 0, 2, 1), project(x, 0, 2, 1))
	wantBetter(t, project(project(x, 2, 0), 1), project(x, 0))
	wantBetter(t, project(project(x, 2, 0), 1, 0, 1), project(x, 0, 2, 0))
	wantBetter(t, project(project(e, 1, 0), 1, 0), e)
	wantBetter(t, project(project(project(project(x, 2, 0, 1), 2, 0, 1), 2, 0, 1)), project(x))
	wantBetter(t, project(project(project(x, 2, 0, 1), 2, 0, 1), 2, 0, 1), x)
	wantBetter(t, project(project(e, 0, 1), 1), project(e, 1))
	wantBetter(t, project(project(project(e), nil...), nil...), project(e))
	wantBetter(t, union(e, e), e)
	wantBetter(t, union(e, project(e, 0, 1)), e)
	wantBetter(t, union(project(project(e, 1, 0), 0), project(e, 1)), project(e, 1))
	wantBetter(t, union(union(p, p), union(p, project(p, 0))), p)
	wantBetter(t, union(project(e, 0), project(e, 1)), union(project(e, 0), project(e, 1)))
	wantBetter(t, union(same(0, 1, x), same(0, 2, x)), union(same(0, 1, x), same(0, 2, x)))
	wantBetter(t, union(same(0, 1, e), same(1, 0, e)), union(same(0, 1, e), same(1, 0, e)))
	wantBetter(t, project(union(project(e, 1), project(e, 1)), 0, 0), project(e, 1, 1))
	wantBetter(t, project(union(project(x, 1, 0), project(x, 1, 0)), 1), project(x, 0))
	wantBetter(t, minus(union(e, e), project(e, 0, 1)), minus(e, e))
	wantBetter(t, less(0, 1, same(1, 0, project(e, 0, 1))), less(0, 1, same(1, 0, e)))
	wantBetter(t, join(project(p, 0), union(q, q)), join(p, q))
}

// TestBetterUnions is that Better keeps each union whose kids differ in one field.
func TestBetterUnions(t *testing.T) {
	x := rel("T", 3)
	for _, p := range []api.Plan{
		union(rel("P", 1), rel("R", 1)),
		union(rel("P", 1), all(1)),
		union(project(all(2)), project(all(3))),
		union(project(less(0, 0, all(2))), project(less(0, 0, all(3)))),
		union(same(0, 1, x), same(2, 1, x)),
		union(same(0, 1, x), same(0, 2, x)),
		union(less(0, 1, x), same(0, 1, x)),
		union(project(x, 0), project(x, 1)),
		union(join(rel("P", 1), rel("R", 1)), join(rel("R", 1), rel("P", 1))),
		union(minus(x, all(3)), minus(x, x)),
		union(minus(x, all(3)), minus(all(3), all(3))),
	} {
		wantBetter(t, p, p)
		wantBetter(t, union(p, clone(p)), p)
	}
}

// TestBetterAtRandom is promise P5.2. The unions of the plans often have the same kids.
func TestBetterAtRandom(t *testing.T) {
	m := newMaker(11)
	fewer := 0
	for _, p := range m.plans(2500) {
		if p.Kind == api.PMinus && m.Intn(2) == 0 {
			p = union(project(p, inOrder(width(p))...), p)
		}
		q := better(t, p, someStructures(m)[:4])
		if plan.Size(q) < plan.Size(p) {
			fewer++
		}
		if r, e := plan.Better(q); e != api.OK || !equal(q, r) {
			t.Errorf("Better of %s is %s, error %d", show(q), show(r), e)
		}
	}
	if fewer < 500 {
		t.Errorf("only %d plans have become smaller", fewer)
	}
}

func TestBetterLarge(t *testing.T) {
	p := rel("E", 2)
	for range 999 {
		p = project(p, 1, 0)
	}
	wantBetter(t, p, project(rel("E", 2), 1, 0))
	wantBetter(t, leaves(2000, rel("P", 1)), rel("P", 1))
	wantBetter(t, chain(999, rel("P", 1)), chain(999, rel("P", 1)))
}

func TestBetterErrors(t *testing.T) {
	for _, p := range []api.Plan{{}, all(13), {Kind: api.PKinds}, project(rel("E", 2), 2), union(rel("P", 1), rel("E", 2)), chain(1000, all(1))} {
		q, e := plan.Better(p)
		wantError(t, "Better of "+show(p), zeroPlan(q), e, api.ErrForm)
	}
}
