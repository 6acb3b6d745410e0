package fix

import (
	"slices"

	"paraphrast/api"
	"paraphrast/formula"
)

const maxDefs = 8 // definitions of a system

// isSystem reports whether defs are a system: they are valid, agree on the names of relations, and are positive in their own ones.
func isSystem(defs []api.Def) bool {
	if len(defs) < 1 || len(defs) > maxDefs {
		return false
	}
	arities := map[string]int{}
	for _, d := range defs {
		if _, known := arities[d.Name]; known || !defines(d) {
			return false
		}
		arities[d.Name] = len(d.Vars)
	}
	for _, d := range defs {
		for _, x := range formula.Symbols(d.Body) {
			if arity, known := arities[x.Name]; known && arity != x.Arity {
				return false
			}
			arities[x.Name] = x.Arity
		}
		if !positive(d.Body, defs) {
			return false
		}
	}
	return true
}

// defines reports whether d is a definition whose Body has no other free variables than its Vars.
func defines(d api.Def) bool {
	if !formula.Name(d.Name) || len(d.Vars) < 1 || len(d.Vars) > api.MaxArity || !formula.Valid(d.Body) {
		return false
	}
	for i, v := range d.Vars {
		if !formula.Name(v) || slices.Contains(d.Vars[:i], v) {
			return false
		}
	}
	for _, v := range formula.Free(d.Body) {
		if !slices.Contains(d.Vars, v) {
			return false
		}
	}
	return true
}

// positive reports whether f is positive in the names of all definitions.
func positive(f api.Formula, defs []api.Def) bool {
	for _, d := range defs {
		if is, _ := formula.Positive(f, d.Name); !is {
			return false
		}
	}
	return true
}

// named reports whether name is that of a definition.
func named(defs []api.Def, name string) bool {
	return slices.ContainsFunc(defs, func(d api.Def) bool { return d.Name == name })
}

// symbols returns the symbols of a system, each once.
func symbols(defs []api.Def) []api.Symbol {
	var l []api.Symbol
	for _, d := range defs {
		for _, x := range formula.Symbols(d.Body) {
			if !named(defs, x.Name) && !slices.Contains(l, x) {
				l = append(l, x)
			}
		}
	}
	return l
}
