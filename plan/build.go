package plan

import (
	"slices"

	"paraphrast/api"
)

// width returns the width of a valid plan.
func width(p api.Plan) int {
	switch p.Kind {
	case api.PRel, api.PAll:
		return p.Width
	case api.PJoin:
		return width(p.Kids[0]) + width(p.Kids[1])
	case api.PProject:
		return len(p.Cols)
	}
	return width(p.Kids[0])
}

// same reports whether two valid plans are equal, field by field.
func same(p, q api.Plan) bool {
	return p.Kind == q.Kind && p.Width == q.Width && p.I == q.I && p.J == q.J && p.Name == q.Name &&
		slices.Equal(p.Cols, q.Cols) && slices.EqualFunc(p.Kids, q.Kids, same)
}

// all returns the plan for all tuples.
func all(width int) api.Plan {
	return api.Plan{Kind: api.PAll, Width: width}
}

// selected returns the plan, PSame or PLess, for the tuples of kid with this relation between the columns i and j.
func selected(kind int, kid api.Plan, i, j int) api.Plan {
	return api.Plan{Kind: kind, I: i, J: j, Kids: []api.Plan{kid}}
}

// combined returns the plan, PJoin, PUnion or PMinus, for two plans.
func combined(kind int, a, b api.Plan) api.Plan {
	return api.Plan{Kind: kind, Kids: []api.Plan{a, b}}
}

// project returns a plan for these columns of kid, which is as simple as Better promises.
func project(kid api.Plan, cols ...int) api.Plan {
	own := slices.Clone(cols)
	if kid.Kind == api.PProject {
		for i, c := range cols {
			own[i] = kid.Cols[c]
		}
		kid = kid.Kids[0]
	}
	if slices.Equal(own, inOrder(width(kid))) {
		return kid
	}
	return api.Plan{Kind: api.PProject, Cols: own, Kids: []api.Plan{kid}}
}

// inOrder returns the columns 0 to n - 1.
func inOrder(n int) []int {
	var cols []int
	for c := range n {
		cols = append(cols, c)
	}
	return cols
}

// complement returns a plan for the tuples that are not in the value of p.
func complement(p api.Plan) api.Plan {
	if p.Kind == api.PMinus && p.Kids[0].Kind == api.PAll {
		return p.Kids[1]
	}
	return combined(api.PMinus, all(width(p)), p)
}

// both returns a plan for the tuples that are in the values of a and b.
func both(a, b api.Plan) api.Plan {
	return combined(api.PMinus, a, complement(b))
}
