package plan_test

import (
	"slices"
	"testing"

	"paraphrast/api"
	"paraphrast/plan"
)

func wantRun(t *testing.T, p api.Plan, s api.Structure, want ...[]int) {
	t.Helper()
	l, e := plan.Run(p, s)
	wantTuples(t, "Run of "+show(p), l, e, want)
}

func wantRunError(t *testing.T, p api.Plan, s api.Structure, want api.Errno) {
	t.Helper()
	l, e := plan.Run(p, s)
	wantError(t, "Run of "+show(p), len(l) == 0, e, want)
}

// TestExamples are the examples of the chapter.
func TestExamples(t *testing.T) {
	s := structure(t, "4; E/2 0,1 1,2 2,3")
	e := rel("E", 2)
	wantRun(t, project(same(1, 2, join(e, e)), 0, 3), s, []int{0, 2}, []int{1, 3})
	wantRun(t, minus(all(1), project(e, 0)), s, []int{3})
}

func TestRunKinds(t *testing.T) {
	s := structure(t, "3; E/2 0,1 1,1 2,0; P/1 1 2; Q/0 (); N/0; T/3 0,0,1 0,1,0 1,2,0 2,2,2")
	e, p, q, n, x := rel("E", 2), rel("P", 1), rel("Q", 0), rel("N", 0), rel("T", 3)
	wantRun(t, e, s, []int{0, 1}, []int{1, 1}, []int{2, 0})
	wantRun(t, q, s, []int{})
	wantRun(t, n, s)
	wantRun(t, all(0), s, []int{})
	wantRun(t, all(1), s, []int{0}, []int{1}, []int{2})
	wantRun(t, same(0, 1, e), s, []int{1, 1})
	wantRun(t, same(1, 0, e), s, []int{1, 1})
	wantRun(t, same(0, 0, p), s, []int{1}, []int{2})
	wantRun(t, less(0, 1, e), s, []int{0, 1})
	wantRun(t, less(1, 0, e), s, []int{2, 0})
	wantRun(t, less(0, 0, e), s)
	wantRun(t, same(0, 2, x), s, []int{0, 1, 0}, []int{2, 2, 2})
	wantRun(t, less(2, 1, x), s, []int{0, 1, 0}, []int{1, 2, 0})
	wantRun(t, less(0, 2, x), s, []int{0, 0, 1})
	wantRun(t, join(p, e), s, []int{1, 0, 1}, []int{1, 1, 1}, []int{1, 2, 0}, []int{2, 0, 1}, []int{2, 1, 1}, []int{2, 2, 0})
	wantRun(t, join(e, p), s, []int{0, 1, 1}, []int{0, 1, 2}, []int{1, 1, 1}, []int{1, 1, 2}, []int{2, 0, 1}, []int{2, 0, 2})
	wantRun(t, join(q, p), s, []int{1}, []int{2})
	wantRun(t, join(p, n), s)
	wantRun(t, join(n, p), s)
	wantRun(t, project(e, 1, 0), s, []int{0, 2}, []int{1, 0}, []int{1, 1})
	wantRun(t, project(e, 1), s, []int{0}, []int{1})
	wantRun(t, project(e), s, []int{})
	wantRun(t, project(less(0, 0, e)), s)
	wantRun(t, project(p, 0, 0, 0), s, []int{1, 1, 1}, []int{2, 2, 2})
	wantRun(t, project(x, 2, 0, 2), s, []int{0, 0, 0}, []int{0, 1, 0}, []int{1, 0, 1}, []int{2, 2, 2})
	wantRun(t, union(p, project(e, 1)), s, []int{0}, []int{1}, []int{2})
	wantRun(t, union(q, n), s, []int{})
	wantRun(t, minus(p, project(e, 1)), s, []int{2})
	wantRun(t, minus(all(0), q), s)
	wantRun(t, minus(all(0), n), s, []int{})
	wantRun(t, minus(e, e), s)
	one := structure(t, "1; P/1 0; T/12 0,0,0,0,0,0,0,0,0,0,0,0")
	wantRun(t, all(12), one, make([]int, 12))
	wantRun(t, join(rel("P", 1), less(0, 0, all(1))), one)
	wantRun(t, project(rel("T", 12), 11, 3), one, []int{0, 0})
}

func TestRunErrors(t *testing.T) {
	s := structure(t, "3; E/2 0,1; P/1 2")
	broken := api.Structure{Size: 3, Rels: []api.Rel{{Name: "P", Arity: 1, Tuples: [][]int{{3}}}}}
	for _, p := range []api.Plan{{}, all(13), same(0, 2, rel("E", 2)), union(rel("P", 1), rel("E", 2))} {
		wantRunError(t, p, s, api.ErrForm)
		wantRunError(t, p, broken, api.ErrForm)
	}
	for _, bad := range []api.Structure{{}, {Size: 65}, {Size: -1}, broken} {
		wantRunError(t, all(1), bad, api.ErrForm)
		wantRunError(t, rel("P", 1), bad, api.ErrForm)
	}
	for _, p := range []api.Plan{rel("F", 2), rel("e", 2), rel("E", 1), rel("E", 3), rel("P", 0), join(rel("E", 2), rel("P", 2)), project(rel("Q", 0)), minus(all(1), project(rel("F", 1)))} {
		p = union(project(p), all(0))
		if plan.Valid(p) {
			wantRunError(t, p, s, api.ErrName)
		}
	}
	wantRunError(t, rel("E", 1), s, api.ErrName)
	wantRunError(t, join(all(8), rel("F", 2)), s, api.ErrName)
}

// TestRunLimit is that ErrSize depends on the widest plan only, wherever it is.
func TestRunLimit(t *testing.T) {
	for _, c := range []struct{ size, width int }{{64, 2}, {16, 3}, {8, 4}, {5, 5}, {4, 6}, {3, 7}, {2, 12}, {1, 12}} {
		s := api.Structure{Size: c.size}
		wide := func(width int) []api.Plan {
			kid := all(width)
			half := join(all(width/2), all(width-width/2))
			return []api.Plan{kid, half, project(kid), join(all(0), half), minus(all(0), project(kid)), union(project(half), all(0)), less(0, 0, kid), project(less(1, 1, kid), 0), project(all(1), make([]int, width)...)}
		}
		for _, p := range wide(c.width) {
			run(t, p, s)
		}
		if c.width < 12 {
			for _, p := range wide(c.width + 1) {
				wantRunError(t, p, s, api.ErrSize)
			}
		}
	}
	wantRunError(t, join(less(0, 0, all(6)), all(6)), api.Structure{Size: 3}, api.ErrSize)
	if l := run(t, all(2), api.Structure{Size: 64}); len(l) != 4096 || !slices.Equal(l[4095], []int{63, 63}) || !slices.Equal(l[64], []int{1, 0}) {
		t.Errorf("all(2) has %d pairs of 64 elements", len(l))
	}
}

func TestRunAtRandom(t *testing.T) {
	m := newMaker(2)
	for _, p := range m.plans(1500) {
		for _, n := range []int{1, 2, 3} {
			s := m.structure(n)
			l, e := plan.Run(p, s)
			wantTuples(t, "Run of "+show(p), l, e, value(p, s))
		}
	}
}

// TestLargePlans is that plans at the limits run.
func TestLargePlans(t *testing.T) {
	s := structure(t, "2; P/1 1")
	wantRun(t, same(0, 0, leaves(2000, rel("P", 1))), s, []int{1})
	wantRun(t, chain(999, rel("P", 1)), s, []int{1})
	turned := all(12)
	for range 990 {
		turned = project(turned, 11, 10, 9, 8, 7, 6, 5, 4, 3, 2, 1, 0)
	}
	if l := run(t, turned, s); len(l) != 4096 {
		t.Errorf("%d tuples of 4096", len(l))
	}
}

func wantSameValue(t *testing.T, p, q api.Plan, s api.Structure) {
	t.Helper()
	if a, b := run(t, p, s), run(t, q, s); !equalTuples(a, b) {
		t.Errorf("in %v, %s is %v, but %s is %v", s, show(p), a, show(q), b)
	}
}

// TestAlgebra is promise P5.3.
func TestAlgebra(t *testing.T) {
	m := newMaker(3)
	for range 500 {
		s := m.structure(1 + m.Intn(2))
		w := 1 + m.Intn(3)
		a, b, c := m.plan(3, w), m.plan(3, w), m.plan(3, w)
		i, j, k, l := m.Intn(w), m.Intn(w), m.Intn(w), m.Intn(w)
		wantSameValue(t, same(i, j, less(k, l, a)), less(k, l, same(i, j, a)), s)
		wantSameValue(t, same(i, j, same(k, l, a)), same(k, l, same(i, j, a)), s)
		wantSameValue(t, less(i, j, less(k, l, a)), less(k, l, less(i, j, a)), s)
		wantSameValue(t, join(a, join(b, c)), join(join(a, b), c), s)
		wantSameValue(t, project(union(a, b), i, j, k), union(project(a, i, j, k), project(b, i, j, k)), s)
		wantSameValue(t, minus(minus(a, b), c), minus(a, union(b, c)), s)
	}
}
