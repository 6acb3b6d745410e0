package rules

import (
	"slices"

	"paraphrast/api"
	"paraphrast/shape"
)

const maxValues = 16 * api.MaxCells // lists of values for the variables of a rule

// model is a program with the relations that it defines in a structure.
type model struct {
	size   int
	level  map[string]int // of the defined names
	tables map[string]*table
	rules  []*rule
	first  [][]*join // for each level, how to begin with the rules that use no name of this level
	queue  queue
}

// table is a relation: what is known of a tuple is at its rank.
type table struct {
	arity int
	has   []bool
	best  []step  // of a defined name: how the smallest proof that is found so far begins
	next  []*join // how a tuple of the relation helps to apply rules of the same level
}

// step is a rule with values, and the number of proofs in a proof that begins with it: 0 if there is none, more than MaxParts if the proof is larger than that.
type step struct {
	cost, rule int
	values     []int
}

// rule is a rule whose variables are numbers.
type rule struct {
	number, vars int
	head         place
	conds        []cond
}

// place is a relation with variables for its components.
type place struct {
	*table
	at []int
}

// cond is a condition of a rule.
type cond struct {
	place
	kind   int
	neg    bool
	proved bool // proofs with this rule contain a proof of the condition
}

// run returns the model of a program in s, unless the arguments have an error.
func run(l []api.Rule, s api.Structure) (*model, api.Errno) {
	if !Valid(l) || !shape.Valid(s) {
		return nil, api.ErrForm
	}
	if _, e := shape.Keep(s, symbols(l)); e != api.OK {
		return nil, e
	}
	level, _ := levels(l)
	for _, r := range s.Rels {
		if _, defined := level[r.Name]; defined {
			return nil, api.ErrName
		}
	}
	if len(s.Rels)+len(level) > api.MaxRels || tooLarge(l, s.Size) {
		return nil, api.ErrSize
	}
	m := &model{size: s.Size, level: level, tables: map[string]*table{}, first: make([][]*join, len(level))}
	m.load(l, s)
	for i, r := range l {
		m.rules = append(m.rules, m.compile(i, r))
		m.prepare(r, m.rules[i])
	}
	for i := range m.first {
		m.solve(i)
	}
	return m, api.OK
}

// tooLarge reports whether a relation has too many possible tuples of n elements, or the variables of a rule too many values.
func tooLarge(l []api.Rule, n int) bool {
	for _, r := range l {
		if _, e := shape.Power(n, len(r.Head.Args)); e != api.OK {
			return true
		}
		count := 1
		for range variables(r) {
			count *= n
			if count > maxValues {
				return true
			}
		}
	}
	return false
}

// load makes the tables: those of s, and empty ones for the defined names.
func (m *model) load(l []api.Rule, s api.Structure) {
	for _, r := range s.Rels {
		t := m.table(r.Name, r.Arity)
		for _, tuple := range r.Tuples {
			rank, _ := shape.Rank(m.size, tuple)
			t.has[rank] = true
		}
	}
	for name := range m.level {
		arity, _ := defines(l, name)
		t := m.table(name, arity)
		t.best = make([]step, len(t.has))
	}
}

// table adds an empty table.
func (m *model) table(name string, arity int) *table {
	count, _ := shape.Power(m.size, arity)
	t := &table{arity: arity, has: make([]bool, count)}
	m.tables[name] = t
	return t
}

func (m *model) compile(number int, r api.Rule) *rule {
	vars := variables(r)
	compiled := &rule{number: number, vars: len(vars), head: m.place(r.Head, vars)}
	for _, c := range r.Body {
		_, defined := m.level[c.Name]
		compiled.conds = append(compiled.conds, cond{m.place(c.Atom, vars), c.Kind, c.Neg, defined && !c.Neg})
	}
	return compiled
}

func (m *model) place(a api.Atom, vars []string) place {
	p := place{table: m.tables[a.Name]}
	for _, v := range a.Args {
		p.at = append(p.at, slices.Index(vars, v))
	}
	return p
}

// rank returns the rank of the tuple that p denotes.
func (m *model) rank(p place, values []int) int {
	rank := 0
	for _, v := range p.at {
		rank = rank*m.size + values[v]
	}
	return rank
}

// holds reports whether c holds, as far as the relations are known.
func (m *model) holds(c cond, values []int) bool {
	switch c.kind {
	case api.FEq:
		return (values[c.at[0]] == values[c.at[1]]) != c.neg
	case api.FLess:
		return (values[c.at[0]] < values[c.at[1]]) != c.neg
	}
	return c.has[m.rank(c.place, values)] != c.neg
}

// relation returns the relation of a name.
func (m *model) relation(name string) api.Rel {
	t := m.tables[name]
	r := api.Rel{Name: name, Arity: t.arity}
	for rank, has := range t.has {
		if has {
			tuple, _ := shape.Tuple(m.size, t.arity, rank)
			r.Tuples = append(r.Tuples, tuple)
		}
	}
	return r
}
