package mean

import (
	"slices"

	"paraphrast/api"
	"paraphrast/shape"
)

// constant is the level of what has one meaning throughout.
const constant = -1

// binding is what a variable or the name of a relation means at present.
type binding struct {
	level    int       // how many bindings are around it
	value    int       // of a variable
	relation *relation // of a name; nil for a variable
}

// scope says what variables and names mean where a formula is prepared.
type scope struct {
	size      int
	values    map[string]*binding
	relations map[string]*binding
	around    int // how many bindings are around here that are not constant
	room      int // how many words may still be taken for results that are kept
}

// newScope returns the scope in which names mean the relations of s.
func newScope(s api.Structure) *scope {
	c := &scope{
		size:      s.Size,
		values:    map[string]*binding{},
		relations: map[string]*binding{},
		room:      mostWords,
	}
	for _, r := range s.Rels {
		tuples := emptySet(power(s.Size, r.Arity))
		for _, t := range r.Tuples {
			rank, _ := shape.Rank(s.Size, t)
			tuples.add(rank)
		}
		c.relations[r.Name] = &binding{level: constant, relation: &relation{tuples: tuples}}
	}
	return c
}

// bind gives each of vars a value of its own. It returns where these values are, and a function that restores the old ones.
func (c *scope) bind(vars []string) ([]*binding, func()) {
	var places []*binding
	var restores []func()
	for _, v := range vars {
		b := &binding{level: c.around}
		c.around++
		places = append(places, b)
		restores = append(restores, hide(c.values, v, b))
	}
	return places, func() {
		for _, restore := range restores {
			restore()
		}
		c.around -= len(vars)
	}
}

// bindName makes r the meaning of a name, and returns a function that restores the old one.
func (c *scope) bindName(name string, r *relation) func() {
	restore := hide(c.relations, name, &binding{level: c.around, relation: r})
	c.around++
	return func() {
		restore()
		c.around--
	}
}

// hide gives a name a new meaning, and returns a function that restores the old one.
func hide(meanings map[string]*binding, name string, b *binding) func() {
	old, was := meanings[name]
	meanings[name] = b
	return func() {
		if was {
			meanings[name] = old
		} else {
			delete(meanings, name)
		}
	}
}

// places returns where the values of vars are.
func (c *scope) places(vars []string) []*binding {
	var l []*binding
	for _, v := range vars {
		l = append(l, c.values[v])
	}
	return l
}

// rank returns the rank of the tuple of the values of vars.
func (c *scope) rank(vars []*binding) int {
	rank := 0
	for _, v := range vars {
		rank = rank*c.size + v.value
	}
	return rank
}

// move gives vars the values of the tuple with this rank.
func (c *scope) move(vars []*binding, rank int) {
	for _, v := range slices.Backward(vars) {
		v.value = rank % c.size
		rank /= c.size
	}
}

// advance gives vars the values of the next tuple; the first one follows the last one.
func (c *scope) advance(vars []*binding) {
	for _, v := range slices.Backward(vars) {
		v.value++
		if v.value < c.size {
			return
		}
		v.value = 0
	}
}

// collect adds to found the ranks of the tuples of values of vars for which a test holds. Those that are in found already are not tested.
func (c *scope) collect(found set, vars []*binding, holds func() bool) {
	c.move(vars, 0)
	for rank := range power(c.size, len(vars)) {
		if !found.has(rank) && holds() {
			found.add(rank)
		}
		c.advance(vars)
	}
}

// split divides bindings, which are ordered by level, into those around here and those further inside.
func (c *scope) split(uses []*binding) (outer, inner []*binding) {
	at := 0
	for at < len(uses) && uses[at].level < c.around {
		at++
	}
	return uses[:at], uses[at:]
}

// byLevel returns the bindings of some lists, but for the constant ones, each once and the outermost one first.
func byLevel(lists ...[]*binding) []*binding {
	l := slices.Concat(lists...)
	l = slices.DeleteFunc(l, func(b *binding) bool { return b.level == constant })
	slices.SortFunc(l, func(a, b *binding) int { return a.level - b.level })
	return slices.Compact(l)
}

func values(vars []*binding) []int {
	t := []int{}
	for _, v := range vars {
		t = append(t, v.value)
	}
	return t
}
