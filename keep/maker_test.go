package keep_test

import (
	"math/rand"
	"slices"

	"paraphrast/api"
	"paraphrast/keep"
	"paraphrast/rules"
	"paraphrast/shape"
)

// maker makes programs, structures and changes at random.
type maker struct{ *rand.Rand }

func newMaker(seed int64) maker {
	return maker{rand.New(rand.NewSource(seed))}
}

func pick[T any](m maker, l ...T) T {
	return l[m.Intn(len(l))]
}

// symbols are those of all structures. They are not in the order of their names, and no program uses A.
func symbols() []api.Symbol {
	return []api.Symbol{{Name: "U", Arity: 1}, {Name: "E", Arity: 2}, {Name: "Z"}, {Name: "A", Arity: 1}}
}

func (m maker) structure(n int) api.Structure {
	s := api.Structure{Size: n}
	for _, x := range symbols() {
		often := m.Intn(5)
		r := api.Rel{Name: x.Name, Arity: x.Arity}
		for _, tuple := range tuples(n, x.Arity) {
			if m.Intn(5) < often {
				r.Tuples = append(r.Tuples, tuple)
			}
		}
		s.Rels = append(s.Rels, r)
	}
	return s
}

func (m maker) args(n int, from []string) []string {
	var l []string
	for range n {
		l = append(l, pick(m, from...))
	}
	return l
}

// program makes a program of up to 4 names of up to 3 levels, with rules of these variables.
func (m maker) program(vars []string) []api.Rule {
	p := names{list: []string{"P", "Q", "R", "a"}[:1+m.Intn(4)], level: map[string]int{}, arity: map[string]int{}}
	for _, n := range p.list {
		p.level[n], p.arity[n] = m.Intn(3), pick(m, 0, 1, 1, 1, 2, 2, 2)
	}
	var l []api.Rule
	for i := range len(p.list) + m.Intn(6) {
		n := pick(m, p.list...)
		// All names that are used must be defined, or there would be further symbols.
		if i < len(p.list) {
			n = p.list[i]
		}
		r := api.Rule{Head: api.Atom{Name: n, Args: m.args(p.arity[n], vars)}}
		near := slices.Concat(r.Head.Args, vars)
		if i < len(p.list) && m.Intn(3) > 0 {
			r.Body = append(r.Body, m.given(near))
		}
		for range m.Intn(4) {
			r.Body = append(r.Body, m.cond(n, p, near))
		}
		if len(r.Body) == 0 && m.Intn(6) > 0 {
			r.Body = append(r.Body, m.given(near))
		}
		l = append(l, r)
	}
	m.Shuffle(len(l), func(i, j int) { l[i], l[j] = l[j], l[i] })
	return l
}

// names are those that a program defines.
type names struct {
	list         []string
	level, arity map[string]int
}

// given makes a condition on a relation of the structure.
func (m maker) given(vars []string) api.Cond {
	x := symbols()[pick(m, 0, 0, 1, 1, 1, 1, 2)]
	return api.Cond{Neg: m.Intn(5) == 0, Atom: api.Atom{Name: x.Name, Args: m.args(x.Arity, vars)}}
}

// cond makes a condition of a rule for n, which is stratified since each name is used negatively only above its level.
func (m maker) cond(n string, p names, vars []string) api.Cond {
	switch m.Intn(10) {
	case 0:
		return api.Cond{Kind: api.FEq + m.Intn(2), Neg: m.Intn(2) == 0, Atom: api.Atom{Args: m.args(2, vars)}}
	case 1, 2:
		return m.given(vars)
	}
	o := pick(m, p.list...)
	if p.level[o] > p.level[n] {
		o = n
	}
	neg := p.level[o] < p.level[n] && m.Intn(2) == 0
	return api.Cond{Neg: neg, Atom: api.Atom{Name: o, Args: m.args(p.arity[o], vars)}}
}

// tuple makes a tuple for a relation of n elements.
func (m maker) tuple(arity, n int) []int {
	t := make([]int, arity)
	for i := range t {
		t[i] = m.Intn(n)
	}
	return t
}

// fact makes a fact about a structure of n elements.
func (m maker) fact(n int) api.Fact {
	x := symbols()[pick(m, 0, 0, 0, 1, 1, 1, 1, 1, 2, 3)]
	return api.Fact{Name: x.Name, Tuple: m.tuple(x.Arity, n)}
}

// change makes a change of what k keeps, which is seldom one that is none.
func (m maker) change(k *keep.Keeper) (api.Fact, bool) {
	now := k.Now()
	f := m.fact(now.Size)
	was, _ := shape.Has(now, f.Name, f.Tuple)
	return f, was == (m.Intn(6) == 0)
}

// lively reports whether one of a few changes of what k keeps changes a defined relation.
func (m maker) lively(k *keep.Keeper) bool {
	k = k.Clone()
	for range 10 {
		f, in := m.change(k)
		if came, went, _ := k.Put(f.Name, f.Tuple, in); len(came)+len(went) > 1 {
			return true
		}
	}
	return false
}

// anyFact makes a fact that may be about a defined relation, or about none.
func (m maker) anyFact(l []api.Rule, n int) api.Fact {
	f := m.fact(n)
	if m.Intn(3) == 0 {
		r := pick(m, l...)
		f = api.Fact{Name: r.Head.Name, Tuple: m.tuple(len(r.Head.Args), n)}
	}
	switch m.Intn(12) {
	case 0:
		f.Name = pick(m, "", "P", "E", "none", "not")
	case 1:
		f.Tuple = append(f.Tuple, 0)
	case 2:
		f.Tuple = f.Tuple[:len(f.Tuple)/2]
	case 3:
		if len(f.Tuple) > 0 {
			f.Tuple[m.Intn(len(f.Tuple))] = pick(m, -1, n, 1<<62, -1<<63)
		}
	}
	return f
}

// text returns the text of a program.
func text(l []api.Rule) string {
	text, _ := rules.Text(l)
	return text
}
