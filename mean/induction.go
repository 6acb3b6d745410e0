package mean

import (
	"slices"

	"paraphrast/api"
)

// induction is the definition of a relation by stages.
type induction struct {
	scope    *scope
	vars     []*binding
	relation *relation
	kid      part
}

// fixedPoint prepares an FLfp or FPfp.
func (c *scope) fixedPoint(f api.Formula) part {
	args := c.places(f.Args)
	d := &induction{scope: c, relation: &relation{}}
	restoreName := c.bindName(f.Name, d.relation)
	vars, restore := c.bind(f.Vars)
	d.vars = vars
	d.kid = c.prepare(f.Kids[0])
	restore()
	restoreName()
	outer, _ := c.split(d.kid.uses)
	limit := d.least
	if f.Kind == api.FPfp {
		limit = d.partial
	}
	tuples := keep(c, outer, len(d.empty()), limit)
	test := func() bool {
		found := tuples()
		return found.has(c.rank(args))
	}
	return part{test, byLevel(outer, args)}
}

// next returns the stage that follows now; the tuples that are known to be in it are not tested.
func (d *induction) next(now, known set) set {
	d.relation.become(now)
	next := slices.Clone(known)
	d.scope.collect(next, d.vars, d.kid.holds)
	return next
}

// empty returns stage 0.
func (d *induction) empty() set {
	return emptySet(power(d.scope.size, len(d.vars)))
}

// least returns the least fixed point. Each stage is contained in the next one.
func (d *induction) least() set {
	now := d.empty()
	for {
		next := d.next(now, now)
		if slices.Equal(next, now) {
			return now
		}
		now = next
	}
}

// partial returns the stage that is equal to the next one, or no tuples if the stages repeat.
func (d *induction) partial() set {
	now := d.empty()
	seen := map[string]bool{now.key(): true}
	for {
		next := d.next(now, d.empty())
		if slices.Equal(next, now) {
			return now
		}
		if seen[next.key()] {
			return d.empty()
		}
		if len(seen) == api.MaxStages {
			panic(api.ErrSize)
		}
		seen[next.key()] = true
		now = next
	}
}
