package rules

import (
	"slices"

	"paraphrast/api"
	"paraphrast/formula"
)

// expressible reports whether f has only kinds that rules can express. A formula that is valid has no FNot of a name that an FLfp binds.
func expressible(f api.Formula) bool {
	switch f.Kind {
	case api.FNot:
		return f.Kids[0].Kind == api.FRel || f.Kids[0].Kind == api.FEq || f.Kids[0].Kind == api.FLess
	case api.FAll, api.FPfp, api.FSecond:
		return false
	}
	return !slices.ContainsFunc(f.Kids, func(kid api.Formula) bool { return !expressible(kid) })
}

// columned reports whether vars are different names, and the free variables of f among them.
func columned(f api.Formula, vars []string) bool {
	if len(vars) > api.MaxArity || !variable(vars) {
		return false
	}
	for i, v := range vars {
		if slices.Contains(vars[:i], v) {
			return false
		}
	}
	return !slices.ContainsFunc(formula.Free(f), func(v string) bool { return !slices.Contains(vars, v) })
}

// measure says how a formula is divided among rules: by few names, each of which costs a relation, or by small rules.
type measure struct {
	most  int // ways in which a formula may hold, each of which needs a rule, before some of them get a name
	width int // variables that a rule may have before some of its conditions get a name
	rels  int // relations, with those of the formula, that are few enough not to try the next measure
}

// measures lists the measures to try. Small rules are possible in larger structures, if these have room for the relations.
func measures() []measure {
	return []measure{
		{16, 4, api.MaxRels - 2},
		{16, 6, api.MaxRels},
		{16, maxVars, api.MaxRels},
		{1, 6, api.MaxRels},
		{1, maxVars, api.MaxRels},
	}
}

// translate returns the program of the first measure with few relations, or else of the one with the fewest names.
func translate(f api.Formula, vars []string) ([]api.Rule, string, api.Errno) {
	var best []api.Rule
	result, count := "", 0
	for _, m := range measures() {
		l, name := newCollector(f, m).program(f, vars)
		if len(l) == 0 || !Valid(l) {
			continue
		}
		if level, _ := levels(l); best == nil || len(level) < count {
			best, result, count = l, name, len(level)
		}
		if count+len(formula.Symbols(f)) <= m.rels {
			break
		}
	}
	if best == nil {
		return nil, "", api.ErrSize
	}
	return best, result, api.OK
}
