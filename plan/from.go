package plan

import (
	"slices"

	"paraphrast/api"
	"paraphrast/formula"
)

// maxFormulas is how many formulas there may be in one for which From makes a plan.
const maxFormulas = 200

// From returns a plan for the tuples of values of vars for which f holds.
func From(f api.Formula, vars []string) (api.Plan, api.Errno) {
	if !formula.Valid(f) {
		return api.Plan{}, api.ErrForm
	}
	if !firstOrder(f) || !different(vars) || len(vars) > api.MaxArity || !covers(vars, formula.Free(f)) {
		return api.Plan{}, api.ErrArg
	}
	if len(vars)+bindings(f) > api.MaxArity || formula.Size(f) > maxFormulas {
		return api.Plan{}, api.ErrSize
	}
	return scope(vars).plan(f), api.OK
}

// firstOrder reports whether f contains no fixed point, no transitive closure and no guessed relation.
func firstOrder(f api.Formula) bool {
	switch f.Kind {
	case api.FLfp, api.FPfp, api.FTc, api.FSecond:
		return false
	}
	for _, kid := range f.Kids {
		if !firstOrder(kid) {
			return false
		}
	}
	return true
}

func different(vars []string) bool {
	known := map[string]bool{}
	for _, v := range vars {
		known[v] = true
	}
	return len(known) == len(vars)
}

// covers reports whether each free variable is one of vars.
func covers(vars, free []string) bool {
	for _, v := range free {
		if !slices.Contains(vars, v) {
			return false
		}
	}
	return true
}

// bindings returns how many variables are bound in f, each as often as it is.
func bindings(f api.Formula) int {
	n := len(f.Vars)
	for _, kid := range f.Kids {
		n += bindings(kid)
	}
	return n
}

// scope lists the variables around a formula, each of which has a column in its plan. Of those with the same name only the last one can be meant.
type scope []string

// column returns the column of a variable.
func (s scope) column(v string) int {
	for c, name := range slices.Backward(s) {
		if name == v {
			return c
		}
	}
	return -1
}

// plan returns a plan for the tuples of values of s for which f holds. No plan is wider than the scopes are, but for relations: a plan for the values of two formulas beside each other could have more tuples than the limit allows.
func (s scope) plan(f api.Formula) api.Plan {
	switch f.Kind {
	case api.FRel:
		return s.atom(f)
	case api.FEq:
		return selected(api.PSame, all(len(s)), s.column(f.Args[0]), s.column(f.Args[1]))
	case api.FLess:
		return selected(api.PLess, all(len(s)), s.column(f.Args[0]), s.column(f.Args[1]))
	case api.FNot:
		return complement(s.plan(f.Kids[0]))
	case api.FAnd:
		return s.conjunction(f.Kids)
	case api.FOr:
		return s.disjunction(f.Kids)
	}
	inner := append(slices.Clone(s), f.Vars...)
	p := inner.plan(f.Kids[0])
	if f.Kind == api.FSome {
		return project(p, inOrder(len(s))...)
	}
	return complement(project(complement(p), inOrder(len(s))...))
}

func (s scope) conjunction(kids []api.Formula) api.Plan {
	if len(kids) == 0 {
		return all(len(s))
	}
	p := s.plan(kids[0])
	for _, kid := range kids[1:] {
		p = both(p, s.plan(kid))
	}
	return p
}

func (s scope) disjunction(kids []api.Formula) api.Plan {
	if len(kids) == 0 {
		return complement(all(len(s)))
	}
	p := s.plan(kids[0])
	for _, kid := range kids[1:] {
		p = combined(api.PUnion, p, s.plan(kid))
	}
	return p
}

// atom returns the plan for an FRel: the tuples in which equal arguments are equal, with one column for each of these arguments, and then with all columns of s, in order.
func (s scope) atom(f api.Formula) api.Plan {
	p := api.Plan{Kind: api.PRel, Name: f.Name, Width: len(f.Args)}
	var kept, places []int // the first columns of the arguments, and their columns in s
	for i, v := range f.Args {
		if at := slices.Index(f.Args, v); at < i {
			p = selected(api.PSame, p, at, i)
			continue
		}
		kept = append(kept, i)
		places = append(places, s.column(v))
	}
	p = project(p, kept...)
	next := len(kept)
	if next < len(s) {
		p = combined(api.PJoin, p, all(len(s)-next))
	}
	var cols []int
	for c := range s {
		at := slices.Index(places, c)
		if at < 0 {
			at = next
			next++
		}
		cols = append(cols, at)
	}
	return project(p, cols...)
}
