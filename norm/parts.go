package norm

import (
	"paraphrast/api"
	"paraphrast/formula"
)

// each returns a copy of f whose kids are what change makes of those of f.
func each(f api.Formula, change func(kid api.Formula) api.Formula) api.Formula {
	var kids []api.Formula
	for _, kid := range f.Kids {
		kids = append(kids, change(kid))
	}
	f.Vars, f.Args, f.Kids = fresh(f.Vars), fresh(f.Args), kids
	return f
}

func clone(f api.Formula) api.Formula {
	return each(f, clone)
}

// fresh returns the same names in new memory.
func fresh(names []string) []string {
	return append([]string(nil), names...)
}

// within returns f unless a limit makes it invalid, which is the only reason why a formula that is made of a valid one may be so.
func within(f api.Formula) (api.Formula, api.Errno) {
	if !formula.Valid(f) {
		return api.Formula{}, api.ErrSize
	}
	return f, api.OK
}

// dual returns the kind that takes the place of kind where a negation is moved inwards.
func dual(kind int) int {
	switch kind {
	case api.FAnd:
		return api.FOr
	case api.FOr:
		return api.FAnd
	case api.FSome:
		return api.FAll
	case api.FAll:
		return api.FSome
	}
	return kind
}

// variables returns the set of the variables that occur in some formulas, free or bound.
func variables(fs ...api.Formula) map[string]bool {
	set := map[string]bool{}
	for _, f := range fs {
		collect(set, f)
	}
	return set
}

func collect(set map[string]bool, f api.Formula) {
	for _, v := range f.Vars {
		set[v] = true
	}
	for _, v := range f.Args {
		set[v] = true
	}
	for _, kid := range f.Kids {
		collect(set, kid)
	}
}
