package norm

import (
	"slices"

	"paraphrast/api"
	"paraphrast/formula"
)

// Simple returns a formula with the meaning of f that contains no more formulas.
func Simple(f api.Formula) (api.Formula, api.Errno) {
	if !formula.Valid(f) {
		return api.Formula{}, api.ErrForm
	}
	return within(newNamer(f).simple(f))
}

// simple simplifies the kids of f and then f itself, which never makes it larger or deeper.
func (n *namer) simple(f api.Formula) api.Formula {
	f = each(f, n.simple)
	switch f.Kind {
	case api.FEq:
		if f.Args[0] == f.Args[1] {
			return constant(api.FAnd)
		}
	case api.FLess:
		if f.Args[0] == f.Args[1] {
			return constant(api.FOr)
		}
	case api.FNot:
		return negation(f)
	case api.FAnd, api.FOr:
		return combination(f)
	case api.FSome, api.FAll:
		return quantifier(f)
	case api.FLfp, api.FPfp, api.FSecond:
		// Where the name does not occur, all stages but the first one are alike, and any relation will do.
		if kid := f.Kids[0]; count(kid, f.Name) == 0 {
			return n.put(kid, f.Vars, f.Args)
		}
	case api.FTc:
		return connection(f)
	}
	return f
}

// constant returns `true` for FAnd and `false` for FOr.
func constant(kind int) api.Formula {
	return api.Formula{Kind: kind}
}

// is reports whether f is the constant of this kind.
func is(f api.Formula, kind int) bool {
	return f.Kind == kind && len(f.Kids) == 0
}

// negation returns an FNot with a simple kid, simplified.
func negation(f api.Formula) api.Formula {
	kid := f.Kids[0]
	switch {
	case kid.Kind == api.FNot:
		return kid.Kids[0]
	case is(kid, api.FAnd), is(kid, api.FOr):
		return constant(dual(kid.Kind))
	}
	return f
}

// combination returns an FAnd or FOr with simple kids, simplified.
func combination(f api.Formula) api.Formula {
	var kids []api.Formula
	seen := map[string]bool{}
	for _, kid := range spread(f) {
		if is(kid, dual(f.Kind)) {
			return kid
		}
		text, e := formula.Text(kid)
		if e == api.OK && seen[text] {
			continue
		}
		seen[text] = true
		kids = append(kids, kid)
	}
	if len(kids) == 1 {
		return kids[0]
	}
	f.Kids = kids
	return f
}

// spread returns the kids of f, with the kids of those that are of the kind of f in place of these.
func spread(f api.Formula) []api.Formula {
	var kids []api.Formula
	for _, kid := range f.Kids {
		if kid.Kind == f.Kind {
			kids = append(kids, kid.Kids...)
		} else {
			kids = append(kids, kid)
		}
	}
	return kids
}

// quantifier returns an FSome or FAll with a simple kid, simplified.
func quantifier(f api.Formula) api.Formula {
	kid := f.Kids[0]
	free := formula.Free(kid)
	f.Vars = slices.DeleteFunc(f.Vars, func(v string) bool { return !slices.Contains(free, v) })
	if len(f.Vars) == 0 {
		return kid
	}
	// A variable that is free in the kid is not among its Vars.
	if kid.Kind == f.Kind && len(f.Vars)+len(kid.Vars) <= api.MaxArity {
		kid.Vars = append(f.Vars, kid.Vars...)
		return kid
	}
	return f
}

// connection returns an FTc with a simple kid, simplified.
func connection(f api.Formula) api.Formula {
	half := len(f.Args) / 2
	var equations []api.Formula
	for i, v := range f.Args[:half] {
		if w := f.Args[half+i]; v != w {
			equations = append(equations, api.Formula{Kind: api.FEq, Args: []string{v, w}})
		}
	}
	kid := f.Kids[0]
	switch {
	case len(equations) == 0, is(kid, api.FAnd):
		return constant(api.FAnd)
	case len(equations) == 1 && is(kid, api.FOr):
		return equations[0]
	}
	return f
}
