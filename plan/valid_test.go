package plan_test

import (
	"math"
	"strings"
	"testing"

	"paraphrast/api"
	"paraphrast/plan"
)

// wantValid fails unless Valid, Width and Size of p are what the chapter says.
func wantValid(t *testing.T, p api.Plan, want bool) {
	t.Helper()
	if is := plan.Valid(p); is != want {
		t.Errorf("Valid(%s) is %v", show(p), is)
	}
	w, size := -1, 0
	if want {
		w, size = width(p), len(parts(p))
	}
	if plan.Width(p) != w || plan.Size(p) != size {
		t.Errorf("the width of %s is %d instead of %d, its size %d instead of %d", show(p), plan.Width(p), w, plan.Size(p), size)
	}
}

// samples has a plan of each kind, alone and within others.
func samples() []api.Plan {
	e := rel("E", 2)
	l := []api.Plan{
		e, rel("Q", 0), rel("T", 12), all(0), all(3), all(12),
		same(0, 1, e), same(1, 1, e), less(1, 0, e), less(2, 2, all(3)),
		join(e, rel("Q", 0)), join(all(6), all(6)), join(rel("Q", 0), rel("Q", 0)),
		project(e), project(e, 1), project(e, 1, 1, 0), project(e, 0, 0, 0, 0, 0, 0, 1, 1, 1, 1, 1, 1), project(all(0)), project(e, 0, 1),
		union(e, all(2)), union(e, e), minus(all(0), rel("Q", 0)), minus(e, e),
		project(same(1, 2, join(e, e)), 0, 3),
		minus(all(1), project(e, 0)),
	}
	return append(l, union(project(project(less(0, 1, join(e, rel("P", 1))), 2, 1, 0), 1, 1), minus(same(0, 1, e), all(2))))
}

// changed returns p with one field changed, in each way.
func changed(p api.Plan) []api.Plan {
	var l []api.Plan
	for _, n := range []int{math.MinInt, -1, 0, 1, 2, 3, 6, 7, 8, 11, 12, 13, math.MaxInt} {
		for field := range 4 + len(p.Cols) {
			q := clone(p)
			switch field {
			case 0:
				q.Kind = n
			case 1:
				q.Width = n
			case 2:
				q.I = n
			case 3:
				q.J = n
			default:
				q.Cols[field-4] = n
			}
			l = append(l, q)
		}
	}
	for _, s := range []string{"", "E", "Q", "and", "true", "1", "x y", "abcdefghijkl", "abcdefghijklm", "é", "a\x00"} {
		q := clone(p)
		q.Name = s
		l = append(l, q)
	}
	for _, c := range []int{-1, 0, 1, 2, 12} {
		q := clone(p)
		q.Cols = append(q.Cols, c)
		l = append(l, q)
	}
	q, r := clone(p), clone(p)
	q.Kids = nil
	r.Kids = append(r.Kids, all(2))
	return append(l, q, r)
}

// changedWithin returns p with one field of one plan in it changed.
func changedWithin(p api.Plan) []api.Plan {
	l := changed(p)
	for i, kid := range p.Kids {
		for _, k := range changedWithin(kid) {
			q := clone(p)
			q.Kids[i] = k
			l = append(l, q)
		}
	}
	return l
}

func TestValidFields(t *testing.T) {
	wantValid(t, api.Plan{}, false)
	good := 0
	for _, p := range samples() {
		wantValid(t, p, true)
		wantValid(t, clone(p), true)
		for _, q := range changedWithin(p) {
			ok := valid(q)
			wantValid(t, q, ok)
			if ok {
				good++
			}
		}
	}
	if good < 500 {
		t.Errorf("only %d of the plans are valid", good)
	}
}

func TestWidths(t *testing.T) {
	e := rel("E", 2)
	wantValid(t, rel("T", 13), false)
	wantValid(t, all(13), false)
	wantValid(t, rel("T", -1), false)
	wantValid(t, all(-1), false)
	wantValid(t, join(all(12), all(0)), true)
	wantValid(t, join(all(12), rel("P", 1)), false)
	wantValid(t, project(join(all(7), all(6)), 0), false)
	wantValid(t, project(e, make([]int, 12)...), true)
	wantValid(t, project(e, make([]int, 13)...), false)
	wantValid(t, project(e, 0, 2), false)
	wantValid(t, project(all(0), 0), false)
	wantValid(t, same(0, 0, all(0)), false)
	wantValid(t, same(0, 2, e), false)
	wantValid(t, same(-1, 0, e), false)
	wantValid(t, less(2, 0, e), false)
	wantValid(t, less(0, -1, e), false)
	wantValid(t, union(e, rel("P", 1)), false)
	wantValid(t, union(rel("P", 1), e), false)
	wantValid(t, minus(all(2), all(3)), false)
	wantValid(t, minus(all(2), project(all(3), 2, 2)), true)
}

// TestOneWidth is that each name has the same Width in all PRel, wherever they are.
func TestOneWidth(t *testing.T) {
	e := rel("E", 2)
	wantValid(t, join(e, rel("E", 3)), false)
	wantValid(t, join(rel("E", 3), e), false)
	wantValid(t, join(rel("E", 0), e), false)
	wantValid(t, join(e, join(e, e)), true)
	wantValid(t, join(e, rel("e", 3)), true)
	wantValid(t, union(e, project(project(rel("E", 1)), nil...)), false)
	wantValid(t, minus(project(e), project(rel("E", 3))), false)
	wantValid(t, minus(project(e), project(rel("F", 3))), true)
}

func TestLimits(t *testing.T) {
	wantValid(t, leaves(2000, all(1)), true) // 3999 plans
	wantValid(t, same(0, 0, leaves(2000, all(1))), true)
	wantValid(t, less(0, 0, same(0, 0, leaves(2000, all(1)))), false)
	wantValid(t, leaves(2001, all(1)), false)
	wantValid(t, chain(999, all(1)), true)
	wantValid(t, chain(1000, all(1)), false)
	wantValid(t, union(all(1), chain(998, all(1))), true)
	wantValid(t, union(all(1), chain(999, all(1))), false)
	wantValid(t, union(chain(999, all(1)), all(1)), false)
}

func TestNames(t *testing.T) {
	for s, want := range map[string]bool{"E": true, "a1B2": true, "v0": true, "abcdefghijkl": true, "abcdefghijklm": false, "": false, "1a": false, "a_b": false, "tc": false, "exists": false, "Exists": true, strings.Repeat("a", 1000): false} {
		wantValid(t, rel(s, 2), want)
	}
	p := all(2)
	p.Name = "E"
	wantValid(t, p, false)
}

func TestValidAtRandom(t *testing.T) {
	m := newMaker(1)
	for _, p := range m.plans(300) {
		wantValid(t, p, true)
		l := changedWithin(p)
		for range 10 {
			q := l[m.Intn(len(l))]
			wantValid(t, q, valid(q))
		}
	}
}
