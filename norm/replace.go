package norm

import (
	"slices"

	"paraphrast/api"
	"paraphrast/formula"
)

// Replace returns f with the relation that d defines in place of the one that f calls by its name.
func Replace(f api.Formula, d api.Def) (api.Formula, api.Errno) {
	if !formula.Valid(f) || !defines(d) {
		return api.Formula{}, api.ErrForm
	}
	if !fits(f, d) {
		return api.Formula{}, api.ErrArg
	}
	// The size is known beforehand, so that a result that is far too large is never made.
	if formula.Size(f)+count(f, d.Name)*(formula.Size(d.Body)-1) > api.MaxNodes {
		return api.Formula{}, api.ErrSize
	}
	return within(newNamer(f, d.Body).replace(f, d))
}

// defines reports whether d is valid.
func defines(d api.Def) bool {
	if !formula.Name(d.Name) || len(d.Vars) > api.MaxArity || !formula.Valid(d.Body) {
		return false
	}
	for i, v := range d.Vars {
		if !formula.Name(v) || slices.Contains(d.Vars[:i], v) {
			return false
		}
	}
	return true
}

// fits reports whether the Body of d means the same wherever f has its Name.
func fits(f api.Formula, d api.Def) bool {
	for _, v := range formula.Free(d.Body) {
		if !slices.Contains(d.Vars, v) {
			return false
		}
	}
	arities := map[string]int{d.Name: len(d.Vars)}
	inBody := map[string]bool{}
	for _, s := range formula.Symbols(d.Body) {
		inBody[s.Name] = true
		if s.Name != d.Name {
			arities[s.Name] = s.Arity
		}
	}
	for _, s := range formula.Symbols(f) {
		if arity, is := arities[s.Name]; is && arity != s.Arity {
			return false
		}
	}
	return !hides(f, d.Name, inBody)
}

// hides reports whether a formula in f binds one of some names around an occurrence of name.
func hides(f api.Formula, name string, names map[string]bool) bool {
	if binds(f, name) {
		return false
	}
	if f.Kind != api.FRel && names[f.Name] {
		return count(f, name) > 0
	}
	for _, kid := range f.Kids {
		if hides(kid, name, names) {
			return true
		}
	}
	return false
}

// binds reports whether f binds name.
func binds(f api.Formula, name string) bool {
	return f.Kind != api.FRel && f.Name == name
}

// count returns the number of occurrences of name in f.
func count(f api.Formula, name string) int {
	if binds(f, name) {
		return 0
	}
	if f.Name == name {
		return 1
	}
	n := 0
	for _, kid := range f.Kids {
		n += count(kid, name)
	}
	return n
}

func (n *namer) replace(f api.Formula, d api.Def) api.Formula {
	if binds(f, d.Name) {
		return clone(f)
	}
	if f.Name == d.Name {
		return n.put(d.Body, d.Vars, f.Args)
	}
	return each(f, func(kid api.Formula) api.Formula { return n.replace(kid, d) })
}
