package mean

import (
	"slices"

	"paraphrast/api"
)

// part is a formula that is prepared to be tested again and again: whether it holds for the present values and relations, and the bindings around it on which that depends, by level.
type part struct {
	holds func() bool
	uses  []*binding
}

// prepare looks up the names in f once, so that no test has to.
func (c *scope) prepare(f api.Formula) part {
	switch f.Kind {
	case api.FRel:
		return c.membership(f)
	case api.FEq, api.FLess:
		return c.comparison(f)
	case api.FNot, api.FAnd:
		return c.search(nil, f, true)
	case api.FOr:
		return c.search(nil, f, false)
	case api.FSome:
		return c.search(f.Vars, f.Kids[0], true)
	case api.FAll:
		return c.search(f.Vars, f.Kids[0], false)
	case api.FLfp, api.FPfp:
		return c.fixedPoint(f)
	case api.FTc:
		return c.connection(f)
	}
	return c.guess(f)
}

func (c *scope) membership(f api.Formula) part {
	b := c.relations[f.Name]
	args := c.places(f.Args)
	test := func() bool { return b.relation.has(c.rank(args)) }
	return part{test, byLevel(args, []*binding{b})}
}

func (c *scope) comparison(f api.Formula) part {
	args := c.places(f.Args)
	x, y := args[0], args[1]
	test := func() bool { return x.value == y.value }
	if f.Kind == api.FLess {
		test = func() bool { return x.value < y.value }
	}
	return part{test, byLevel(args)}
}

// claim is a part and whether it is to hold.
type claim struct {
	part
	want bool
}

// claims returns what must be true, all of it, for f to be want.
func (c *scope) claims(f api.Formula, want bool) []claim {
	switch {
	case f.Kind == api.FNot:
		return c.claims(f.Kids[0], !want)
	case f.Kind == api.FAnd && want, f.Kind == api.FOr && !want:
		var l []claim
		for _, kid := range f.Kids {
			l = append(l, c.claims(kid, want)...)
		}
		return l
	}
	return []claim{{c.prepare(f), want}}
}

// search prepares the formula that f holds for some values of vars, if want is true, and otherwise the one that it holds for all of them. Either is tested by a search for values for which f is want.
func (c *scope) search(vars []string, f api.Formula, want bool) part {
	_, restore := c.bind(vars)
	claims := c.claims(f, want)
	restore()
	var uses []*binding
	for _, m := range claims {
		uses = append(uses, m.uses...)
	}
	outer, own := c.split(byLevel(uses))
	stages := make([][]claim, len(own)+1)
	for _, m := range claims {
		at := lastOf(own, m.uses) + 1
		stages[at] = append(stages[at], m)
	}
	test := func() bool { return c.exist(own, stages) == want }
	if len(own) > 0 {
		test = keep(c, outer, 0, test)
	}
	return part{test, outer}
}

// lastOf returns the index in own of the innermost binding of uses, or -1 if that is not one of own.
func lastOf(own, uses []*binding) int {
	if len(uses) == 0 {
		return -1
	}
	return slices.Index(own, uses[len(uses)-1])
}

// exist reports whether there are values of vars for which all claims are true. Those of stage i depend on the first i of vars only, and are tested as soon as these have their values.
func (c *scope) exist(vars []*binding, stages [][]claim) bool {
	if !allTrue(stages[0]) {
		return false
	}
	if len(vars) == 0 {
		return true
	}
	for x := range c.size {
		vars[0].value = x
		if c.exist(vars[1:], stages[1:]) {
			return true
		}
	}
	return false
}

func allTrue(claims []claim) bool {
	for i := range claims {
		if claims[i].holds() != claims[i].want {
			return false
		}
	}
	return true
}
