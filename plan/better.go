package plan

import "paraphrast/api"

// Better returns a plan with the value of p and no more plans: no PProject is the kid of another one or leaves its kid as it is, and no PUnion has the same kid twice.
func Better(p api.Plan) (api.Plan, api.Errno) {
	if !Valid(p) {
		return api.Plan{}, api.ErrForm
	}
	return better(p), api.OK
}

func better(p api.Plan) api.Plan {
	var kids []api.Plan
	for _, kid := range p.Kids {
		kids = append(kids, better(kid))
	}
	if p.Kind == api.PProject {
		return project(kids[0], p.Cols...)
	}
	if p.Kind == api.PUnion && same(kids[0], kids[1]) {
		return kids[0]
	}
	p.Cols, p.Kids = nil, kids
	return p
}
