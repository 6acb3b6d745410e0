package mean

import "paraphrast/api"

// relation is what the name of a relation means at present.
type relation struct {
	tuples set
	forget []func() // to be called when the tuples change: each drops what was kept for the old ones

	open    bool  // whether it is guessed which tuples are in the relation
	decided set   // the tuples for which that is decided
	order   []int // the same, in the order of the decisions
}

// become gives the relation other tuples.
func (r *relation) become(tuples set) {
	r.tuples = tuples
	r.change()
}

func (r *relation) change() {
	for _, forget := range r.forget {
		forget()
	}
}

// has reports whether the tuple with this rank is in the relation. In a relation that is guessed, this is decided when it is asked for: at first, the tuple is not in it.
func (r *relation) has(rank int) bool {
	if r.open && !r.decided.has(rank) {
		r.decided.add(rank)
		r.order = append(r.order, rank)
	}
	return r.tuples.has(rank)
}

// reopen makes the relation one of which nothing is decided.
func (r *relation) reopen(cells int) {
	r.open, r.decided, r.order = true, emptySet(cells), nil
	r.become(emptySet(cells))
}

// decideAnew changes the last decision that can be changed and takes back those after it. It reports false if there is none, as all have been tried.
func (r *relation) decideAnew() bool {
	for len(r.order) > 0 {
		last := r.order[len(r.order)-1]
		if !r.tuples.has(last) {
			r.tuples.add(last)
			r.change()
			return true
		}
		r.tuples.remove(last)
		r.decided.remove(last)
		r.order = r.order[:len(r.order)-1]
	}
	return false
}

// guess prepares an FSecond. A test of the kid decides only for the tuples that it asks for, so that it stands for all relations that agree with these decisions.
func (c *scope) guess(f api.Formula) part {
	r := &relation{}
	restore := c.bindName(f.Name, r)
	kid := c.prepare(f.Kids[0])
	restore()
	outer, _ := c.split(kid.uses)
	cells := power(c.size, f.Arity)
	test := func() bool {
		r.reopen(cells)
		for !kid.holds() {
			if !r.decideAnew() {
				return false
			}
		}
		return true
	}
	return part{keep(c, outer, 0, test), outer}
}
