package plan

import (
	"paraphrast/api"
	"paraphrast/shape"
)

// Run returns the value of p in s, rising.
func Run(p api.Plan, s api.Structure) ([][]int, api.Errno) {
	if !Valid(p) || !shape.Valid(s) {
		return nil, api.ErrForm
	}
	arities := map[string]int{}
	for _, x := range shape.Symbols(s) {
		arities[x.Name] = x.Arity
	}
	if !known(p, arities) {
		return nil, api.ErrName
	}
	if tooWide(p, s.Size) {
		return nil, api.ErrSize
	}
	r := newRunner(s)
	return r.tuples(r.value(p)), api.OK
}

// known reports whether each relation of p has one of these names, with this arity.
func known(p api.Plan, arities map[string]int) bool {
	if arity, is := arities[p.Name]; p.Kind == api.PRel && (!is || arity != p.Width) {
		return false
	}
	for _, kid := range p.Kids {
		if !known(kid, arities) {
			return false
		}
	}
	return true
}

// tooWide reports whether there are too many tuples, of elements out of n, that are as long as those of some plan in p.
func tooWide(p api.Plan, n int) bool {
	if _, e := shape.Power(n, width(p)); e != api.OK {
		return true
	}
	for _, kid := range p.Kids {
		if tooWide(kid, n) {
			return true
		}
	}
	return false
}

// value is a relation: for each tuple of this width, by its rank, whether it is in it.
type value struct {
	width int
	has   []bool
}

// runner finds the values of plans in a structure.
type runner struct {
	size   int
	tables map[string][][]int // the tuples of the relations
	kinds  map[int]func(p api.Plan) value
}

func newRunner(s api.Structure) *runner {
	r := &runner{size: s.Size, tables: map[string][][]int{}}
	for _, x := range s.Rels {
		r.tables[x.Name] = x.Tuples
	}
	r.kinds = map[int]func(p api.Plan) value{
		api.PRel:     r.relation,
		api.PAll:     r.all,
		api.PSame:    r.same,
		api.PLess:    r.less,
		api.PJoin:    r.join,
		api.PProject: r.project,
		api.PUnion:   r.union,
		api.PMinus:   r.minus,
	}
	return r
}

// value returns the value of p, in memory that belongs to the caller.
func (r *runner) value(p api.Plan) value {
	run := r.kinds[p.Kind]
	return run(p)
}

func (r *runner) relation(p api.Plan) value {
	v := r.empty(p.Width)
	for _, t := range r.tables[p.Name] {
		rank, _ := shape.Rank(r.size, t)
		v.has[rank] = true
	}
	return v
}

func (r *runner) all(p api.Plan) value {
	v := r.empty(p.Width)
	for rank := range v.has {
		v.has[rank] = true
	}
	return v
}

func (r *runner) same(p api.Plan) value {
	return r.selection(p, func(x, y int) bool { return x == y })
}

func (r *runner) less(p api.Plan) value {
	return r.selection(p, func(x, y int) bool { return x < y })
}

// selection returns the value of the kid of p without the tuples whose components I and J do not pass a test.
func (r *runner) selection(p api.Plan, test func(x, y int) bool) value {
	v := r.value(p.Kids[0])
	units := r.units(v.width, p.I, p.J)
	for rank, is := range v.has {
		v.has[rank] = is && test(rank/units[0]%r.size, rank/units[1]%r.size)
	}
	return v
}

func (r *runner) join(p api.Plan) value {
	a := r.value(p.Kids[0])
	b := r.value(p.Kids[1])
	v := r.empty(a.width + b.width)
	for i, is := range a.has {
		if is {
			copy(v.has[i*len(b.has):], b.has)
		}
	}
	return v
}

func (r *runner) project(p api.Plan) value {
	kid := r.value(p.Kids[0])
	units := r.units(kid.width, p.Cols...)
	v := r.empty(len(units))
	for rank, is := range kid.has {
		if !is {
			continue
		}
		image := 0
		for _, unit := range units {
			image = image*r.size + rank/unit%r.size
		}
		v.has[image] = true
	}
	return v
}

func (r *runner) union(p api.Plan) value {
	a := r.value(p.Kids[0])
	b := r.value(p.Kids[1])
	for rank, is := range b.has {
		a.has[rank] = a.has[rank] || is
	}
	return a
}

func (r *runner) minus(p api.Plan) value {
	a := r.value(p.Kids[0])
	b := r.value(p.Kids[1])
	for rank, is := range b.has {
		a.has[rank] = a.has[rank] && !is
	}
	return a
}

// empty returns the value without tuples.
func (r *runner) empty(width int) value {
	cells, _ := shape.Power(r.size, width)
	return value{width, make([]bool, cells)}
}

// units returns by how much the rank of a tuple of this width grows when one of these columns grows by 1.
func (r *runner) units(width int, cols ...int) []int {
	var units []int
	for _, c := range cols {
		unit, _ := shape.Power(r.size, width-1-c)
		units = append(units, unit)
	}
	return units
}

// tuples lists the tuples of v, rising.
func (r *runner) tuples(v value) [][]int {
	var l [][]int
	for rank, is := range v.has {
		if is {
			t, _ := shape.Tuple(r.size, v.width, rank)
			l = append(l, t)
		}
	}
	return l
}
