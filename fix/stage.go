package fix

import (
	"slices"

	"paraphrast/api"
	"paraphrast/formula"
	"paraphrast/mean"
	"paraphrast/shape"
)

// climb is the way from stage 0 of a system to its least fixed point.
type climb struct {
	defs  []api.Def
	under api.Structure
	stage []api.Rel
	grown map[string]bool // the names whose relations the last step has changed; nil before the first step
}

// follow passes the stages of a system in s to see, from stage 0 up to the least fixed point, unless the arguments have an error.
func follow(defs []api.Def, s api.Structure, see func(stage []api.Rel)) api.Errno {
	if !isSystem(defs) || !shape.Valid(s) {
		return api.ErrForm
	}
	if _, e := shape.Keep(s, symbols(defs)); e != api.OK {
		return e
	}
	c := &climb{defs: defs, under: s}
	for _, d := range defs {
		if tooLarge(d, s.Size) {
			return api.ErrSize
		}
		c.stage = append(c.stage, api.Rel{Name: d.Name, Arity: len(d.Vars)})
	}
	for c.grown == nil || len(c.grown) > 0 {
		see(c.stage)
		if e := c.step(); e != api.OK {
			return e
		}
	}
	return api.OK
}

// tooLarge reports whether the relation of d, its Body or the cost of its fixed point exceeds a limit for n elements.
func tooLarge(d api.Def, n int) bool {
	cells, e := shape.Power(n, len(d.Vars))
	if e != api.OK || len(formula.Symbols(d.Body)) > api.MaxRels {
		return true
	}
	// The cost of the FLfp is 1 + cells cells cost; the division avoids a product that is too large for an int.
	cost, _ := mean.Cost(d.Body, n)
	return cost > (api.MaxCost-2)/(cells*cells)
}

// step goes to the next stage. The stages grow, so that a relation has changed if and only if it has more tuples.
func (c *climb) step() api.Errno {
	next := slices.Clone(c.stage)
	grown := map[string]bool{}
	for i, d := range c.defs {
		uses := formula.Symbols(d.Body)
		if c.settled(uses) {
			continue
		}
		tuples, e := mean.Query(d.Body, c.around(uses), d.Vars)
		if e != api.OK {
			return e
		}
		next[i].Tuples = tuples
		if len(tuples) > len(c.stage[i].Tuples) {
			grown[d.Name] = true
		}
	}
	c.stage, c.grown = next, grown
	return api.OK
}

// settled reports whether a Body with these symbols holds where it did before the last step.
func (c *climb) settled(uses []api.Symbol) bool {
	if c.grown == nil {
		return false
	}
	return !slices.ContainsFunc(uses, func(x api.Symbol) bool { return c.grown[x.Name] })
}

// around returns the structure in which a Body with these symbols is evaluated: those of the system denote relations of the stage.
func (c *climb) around(uses []api.Symbol) api.Structure {
	s := api.Structure{Size: c.under.Size}
	for _, x := range uses {
		named := func(r api.Rel) bool { return r.Name == x.Name }
		if i := slices.IndexFunc(c.stage, named); i >= 0 {
			s.Rels = append(s.Rels, c.stage[i])
		} else if i := slices.IndexFunc(c.under.Rels, named); i >= 0 {
			s.Rels = append(s.Rels, c.under.Rels[i])
		}
	}
	return s
}
