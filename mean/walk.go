package mean

import "paraphrast/api"

// steps are the steps of a transitive closure, between tuples of values of two lists of variables.
type steps struct {
	scope    *scope
	from, to []*binding
	kid      part
}

// graph is what is known of the steps for some values of the other variables: for each tuple, by its rank, to which tuples it leads, and the walk that begins there. Both are nil until they are asked for.
type graph struct {
	leads []set
	walks []*walk
}

// walk is the tuples that are reached from one, and those of them from which no step has been taken.
type walk struct {
	reached set
	ahead   []int
}

// connection prepares an FTc.
func (c *scope) connection(f api.Formula) part {
	args := c.places(f.Args)
	vars, restore := c.bind(f.Vars)
	kid := c.prepare(f.Kids[0])
	restore()
	outer, _ := c.split(kid.uses)
	half := len(vars) / 2
	d := &steps{c, vars[:half], vars[half:], kid}
	cells := power(c.size, half)
	graphs := keep(c, outer, 4*cells, func() *graph {
		return &graph{make([]set, cells), make([]*walk, cells)}
	})
	test := func() bool {
		from, to := c.rank(args[:half]), c.rank(args[half:])
		if from == to {
			return true
		}
		g := graphs()
		return d.connect(g, from, to)
	}
	return part{test, byLevel(outer, args)}
}

// connect reports whether there is a way between two different tuples. The walk from the first one goes on until it reaches the second one, and from there when it is asked for another.
func (d *steps) connect(g *graph, from, to int) bool {
	w := g.walks[from]
	if w == nil {
		w = &walk{emptySet(len(g.walks)), []int{from}}
		w.reached.add(from)
		g.walks[from] = w
	}
	for !w.reached.has(to) && len(w.ahead) > 0 {
		last := len(w.ahead) - 1
		x := w.ahead[last]
		added := w.reached.include(d.leads(g, x))
		w.ahead = append(w.ahead[:last], added...)
	}
	return w.reached.has(to)
}

// leads returns the tuples to which the tuple with the rank x leads.
func (d *steps) leads(g *graph, x int) set {
	if g.leads[x] == nil {
		found := emptySet(len(g.leads))
		d.scope.move(d.from, x)
		d.scope.collect(found, d.to, d.kid.holds)
		g.leads[x] = found
	}
	return g.leads[x]
}
