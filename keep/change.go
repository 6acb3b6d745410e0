package keep

import (
	"cmp"
	"slices"

	"paraphrast/api"
)

// change is a change of a relation of the structure, with all that follows from it.
type change struct {
	*Keeper
	touched []fact // those that have been set; one that is set back is there twice
}

// put inserts or removes f, which belongs to a relation of the structure, and renews the defined relations. It returns the facts that have changed, in order.
func (k *Keeper) put(f fact, is bool) []fact {
	c := &change{Keeper: k}
	c.set(f, is)
	for level := range k.uses {
		c.renew(level)
	}
	changed := c.changed()
	for _, f := range c.touched {
		k.at(f).was = k.at(f).is
	}
	slices.SortFunc(changed, func(a, b fact) int {
		return cmp.Or(cmp.Compare(a.rel, b.rel), cmp.Compare(a.rank, b.rank))
	})
	return changed
}

func (c *change) set(f fact, is bool) {
	c.at(f).is = is
	c.touched = append(c.touched, f)
}

// changed returns the facts that are not as they were.
func (c *change) changed() []fact {
	var l []fact
	for _, f := range c.touched {
		if x := c.at(f); x.is != x.was {
			l = append(l, f)
		}
	}
	return l
}

// renew renews the relations of a level, once those of lower levels are as they should be. Facts of the level may have had no other derivations than from each other, so it removes all that might not follow any more, and then adds those that do follow.
func (c *change) renew(level int) {
	facts := c.changed()
	for _, f := range c.spread(level, facts, false) {
		if c.derived(f) {
			c.set(f, true)
			facts = append(facts, f)
		}
	}
	c.spread(level, facts, true)
}

// spread follows facts that have changed, and all that it changes itself: if to is false, it removes the facts of the level that had a derivation with a condition that such a fact has ended; if to is true, it adds those that have a derivation with a condition that such a fact has met. It returns the facts that it changed.
func (c *change) spread(level int, facts []fact, to bool) []fact {
	meets := func(x *part, values []int) bool {
		if x.head {
			return c.at(c.fact(x, values)).is != to
		}
		return c.holds(x, values, to)
	}
	list := slices.Clone(facts)
	for i := 0; i < len(list); i++ {
		f := list[i]
		t := c.tuple(f)
		for _, j := range c.uses[level][f.rel] {
			if (c.at(f).is != j.start.neg) != to {
				continue
			}
			j.search(c.size, t, meets, func(values []int) bool {
				head := c.fact(j.head, values)
				c.set(head, to)
				list = append(list, head)
				return true
			})
		}
	}
	return list[len(facts):]
}

// derived reports whether f has a derivation.
func (c *change) derived(f fact) bool {
	return c.derivations(f.rel, c.tuple(f), func([]int) bool { return true })
}

// derivations calls found for the values of each derivation of a tuple, until it returns true, and reports whether it did.
func (k *Keeper) derivations(rel int, t []int, found func(values []int) bool) bool {
	return slices.ContainsFunc(k.heads[rel], func(j *join) bool {
		return j.search(k.size, t, func(x *part, values []int) bool { return k.holds(x, values, true) }, found)
	})
}

// holds reports whether a condition holds now or, if now is false, whether it did before the change.
func (k *Keeper) holds(x *part, values []int, now bool) bool {
	switch x.kind {
	case api.FEq:
		return (values[x.args[0]] == values[x.args[1]]) != x.neg
	case api.FLess:
		return (values[x.args[0]] < values[x.args[1]]) != x.neg
	}
	at := k.at(k.fact(x, values))
	if now {
		return at.is != x.neg
	}
	return at.was != x.neg
}
