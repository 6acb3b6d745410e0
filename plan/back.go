package plan

import (
	"slices"
	"strconv"

	"paraphrast/api"
	"paraphrast/formula"
)

// Back returns a formula that holds for the values of v0, v1 and so on if and only if these are a tuple of the value of p.
func Back(p api.Plan) (api.Formula, api.Errno) {
	if !Valid(p) {
		return api.Formula{}, api.ErrForm
	}
	var vars []string
	for i := range width(p) {
		vars = append(vars, numbered(i))
	}
	f := contains(p, vars)
	if !formula.Valid(f) {
		return api.Formula{}, api.ErrSize
	}
	return f, api.OK
}

func numbered(i int) string {
	return "v" + strconv.Itoa(i)
}

// contains returns a formula which says that the tuple of the values of vars is in the value of p.
func contains(p api.Plan, vars []string) api.Formula {
	switch p.Kind {
	case api.PRel:
		return api.Formula{Kind: api.FRel, Name: p.Name, Args: slices.Clone(vars)}
	case api.PSame:
		return list(api.FAnd, equal(vars[p.I], vars[p.J]), contains(p.Kids[0], vars))
	case api.PLess:
		less := api.Formula{Kind: api.FLess, Args: []string{vars[p.I], vars[p.J]}}
		return list(api.FAnd, less, contains(p.Kids[0], vars))
	case api.PJoin:
		w := width(p.Kids[0])
		return list(api.FAnd, contains(p.Kids[0], vars[:w]), contains(p.Kids[1], vars[w:]))
	case api.PProject:
		return extends(p, vars)
	case api.PUnion:
		return list(api.FOr, contains(p.Kids[0], vars), contains(p.Kids[1], vars))
	case api.PMinus:
		other := contains(p.Kids[1], vars)
		not := api.Formula{Kind: api.FNot, Kids: []api.Formula{other}}
		return list(api.FAnd, contains(p.Kids[0], vars), not)
	}
	return list(api.FAnd)
}

// extends returns a formula which says that the values of vars are the columns of a tuple of the value of the kid of p. It binds one variable for each class of equal columns that are left out; the few names suffice for that, as the kid has no other free variables than those of its columns.
func extends(p api.Plan, vars []string) api.Formula {
	kid := p.Kids[0]
	class := classes(kid)
	inner := make([]string, len(class))
	var parts []api.Formula
	for i, c := range p.Cols {
		c = class[c]
		if inner[c] == "" {
			inner[c] = vars[i]
		} else {
			parts = append(parts, equal(inner[c], vars[i]))
		}
	}
	var bound []string
	for c := range inner {
		if class[c] < c {
			inner[c] = inner[class[c]]
		} else if inner[c] == "" {
			inner[c] = unused(inner)
			bound = append(bound, inner[c])
		}
	}
	return list(api.FAnd, append(parts, some(bound, contains(kid, inner)))...)
}

// unused returns the first numbered variable that is not one of vars.
func unused(vars []string) string {
	i := 0
	for slices.Contains(vars, numbered(i)) {
		i++
	}
	return numbered(i)
}

// some returns an FSome for those of vars that are free in f, if there are any.
func some(vars []string, f api.Formula) api.Formula {
	free := formula.Free(f)
	vars = slices.DeleteFunc(vars, func(v string) bool { return !slices.Contains(free, v) })
	if len(vars) == 0 {
		return f
	}
	return api.Formula{Kind: api.FSome, Vars: vars, Kids: []api.Formula{f}}
}

// equal returns a formula which says that the values of two variables are equal.
func equal(x, y string) api.Formula {
	if x == y {
		return list(api.FAnd)
	}
	return api.Formula{Kind: api.FEq, Args: []string{x, y}}
}

// list returns the formula, FAnd or FOr, for some kids. It has the kids of those that are of its own kind, so that it is less deep.
func list(kind int, kids ...api.Formula) api.Formula {
	f := api.Formula{Kind: kind}
	for _, kid := range kids {
		if kid.Kind == kind {
			f.Kids = append(f.Kids, kid.Kids...)
		} else {
			f.Kids = append(f.Kids, kid)
		}
	}
	if len(f.Kids) == 1 {
		return f.Kids[0]
	}
	return f
}

// classes returns, for each column of p, the first column that is equal to it in all tuples of the value, as far as selections on the way show it.
func classes(p api.Plan) []int {
	switch p.Kind {
	case api.PSame:
		l := classes(p.Kids[0])
		low, high := min(l[p.I], l[p.J]), max(l[p.I], l[p.J])
		for c := range l {
			if l[c] == high {
				l[c] = low
			}
		}
		return l
	case api.PLess, api.PMinus:
		return classes(p.Kids[0])
	case api.PJoin:
		l := classes(p.Kids[0])
		w := len(l)
		for _, c := range classes(p.Kids[1]) {
			l = append(l, w+c)
		}
		return l
	}
	return inOrder(width(p))
}
