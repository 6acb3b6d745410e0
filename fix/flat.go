package fix

import (
	"maps"
	"slices"

	"paraphrast/api"
	"paraphrast/formula"
	"paraphrast/norm"
)

// Flat returns a system with a definition for each FLfp of f, and a first-order formula that says with its relations what f says.
func Flat(f api.Formula) ([]api.Def, api.Formula, api.Errno) {
	if !formula.Valid(f) {
		return nil, api.Formula{}, api.ErrForm
	}
	count, flat := fixed(f)
	if count == 0 || !flat {
		return nil, api.Formula{}, api.ErrArg
	}
	// Variables that are not bound twice mean the same wherever they are, so that a relation may be asked for by those on which it depends.
	g, e := norm.Apart(f)
	if e != api.OK || count > maxDefs {
		return nil, api.Formula{}, api.ErrSize
	}
	c := &collector{namer: newNamer(g)}
	g = c.first(g, scope{})
	for _, d := range c.defs {
		if len(d.Vars) > api.MaxArity {
			return nil, api.Formula{}, api.ErrSize
		}
	}
	return c.defs, g, api.OK
}

// fixed counts the FLfp in f, and reports whether f may be flattened as far as its kinds are concerned.
func fixed(f api.Formula) (count int, flat bool) {
	flat = true
	for _, kid := range f.Kids {
		n, ok := fixed(kid)
		count += n
		flat = flat && ok
	}
	switch f.Kind {
	case api.FLfp:
		count++
	case api.FNot:
		flat = flat && count == 0
	case api.FPfp, api.FTc, api.FSecond:
		flat = false
	}
	return count, flat
}

// collector makes definitions of the FLfp of a formula.
type collector struct {
	namer
	defs []api.Def
}

// relation is what an FLfp becomes: a relation whose tuples begin with the values of the variables around it on which it depends.
type relation struct {
	name   string
	params []string
}

// has returns the formula that says that the values of args are in the relation.
func (r relation) has(args []string) api.Formula {
	return api.Formula{Kind: api.FRel, Name: r.name, Args: slices.Concat(r.params, args)}
}

// scope says what the names mean that the FLfp around a formula bind.
type scope map[string]relation

// first returns f as a first-order formula.
func (c *collector) first(f api.Formula, around scope) api.Formula {
	if r, bound := around[f.Name]; bound && f.Kind == api.FRel {
		return r.has(f.Args)
	}
	if f.Kind == api.FLfp {
		return c.define(f, around).has(f.Args)
	}
	var kids []api.Formula
	for _, kid := range f.Kids {
		kids = append(kids, c.first(kid, around))
	}
	return api.Formula{Kind: f.Kind, Name: f.Name, Vars: f.Vars, Args: f.Args, Kids: kids}
}

// define adds the definition of an FLfp; those that are within it follow.
func (c *collector) define(f api.Formula, around scope) relation {
	r := relation{c.fresh("R"), params(f, around)}
	at := len(c.defs)
	c.defs = append(c.defs, api.Def{Name: r.name, Vars: slices.Concat(r.params, f.Vars)})
	inner := maps.Clone(around)
	inner[f.Name] = r
	body := c.first(f.Kids[0], inner)
	c.defs[at].Body = body
	return r
}

// params returns the variables on which the relation of an FLfp depends: those that are free in its kid, and those on which the relations around it depend that its kid asks for.
func params(f api.Formula, around scope) []string {
	kid := f.Kids[0]
	l := slices.DeleteFunc(formula.Free(kid), func(v string) bool { return slices.Contains(f.Vars, v) })
	for _, x := range formula.Symbols(kid) {
		if x.Name != f.Name {
			l = append(l, around[x.Name].params...)
		}
	}
	slices.Sort(l)
	return slices.Compact(l)
}
