package rules_test

import (
	"math/rand"
	"slices"
	"strings"

	"paraphrast/api"
	"paraphrast/formula"
	"paraphrast/mean"
)

// maker makes programs, formulas and structures at random.
type maker struct{ *rand.Rand }

func newMaker(seed int64) maker {
	return maker{rand.New(rand.NewSource(seed))}
}

func pick[T any](m maker, l ...T) T {
	return l[m.Intn(len(l))]
}

// symbols are those of all structures. x is the name of a variable, too.
func symbols() []api.Symbol {
	return []api.Symbol{{Name: "U", Arity: 1}, {Name: "E", Arity: 2}, {Name: "Z"}, {Name: "x", Arity: 1}}
}

// structure makes a structure whose E is often a path.
func (m maker) structure(n int) api.Structure {
	s := api.Structure{Size: n}
	for _, x := range symbols() {
		often := m.Intn(5)
		r := api.Rel{Name: x.Name, Arity: x.Arity}
		row := m.Perm(n)
		path := x.Name == "E" && m.Intn(2) == 0
		for _, tuple := range tuples(n, x.Arity) {
			if path && row[tuple[1]] == row[tuple[0]]+1 || !path && m.Intn(5) < often {
				r.Tuples = append(r.Tuples, tuple)
			}
		}
		s.Rels = append(s.Rels, r)
	}
	return s
}

// dress says what random programs look like.
type dress struct {
	names, rules, conds, vars, arity int
}

func (m maker) args(n int, from []string) []string {
	var l []string
	for range n {
		l = append(l, pick(m, from...))
	}
	return l
}

// program makes a program that is stratified: each name has a level, and is used negatively only above it.
func (m maker) program(d dress) []api.Rule {
	names := words("P Q R S x1 y T W")
	m.Shuffle(len(names), func(i, j int) { names[i], names[j] = names[j], names[i] })
	names = names[:1+m.Intn(d.names)]
	level, arity := map[string]int{}, map[string]int{}
	for _, n := range names {
		level[n], arity[n] = m.Intn(3), min(m.Intn(d.arity+1)+m.Intn(2), d.arity)
	}
	vars := words("x y z u v w E P v0 v1 y1 z1")[:d.vars]
	var l []api.Rule
	for len(l) < 1+m.Intn(d.rules) {
		n := pick(m, names...)
		// All names that are used must be defined, or there would be further symbols.
		if len(l) < len(names) {
			n = names[len(l)]
		}
		r := api.Rule{Head: api.Atom{Name: n, Args: m.args(arity[n], vars)}}
		near := vars
		if m.Intn(2) == 0 {
			near = append(slices.Clone(r.Head.Args), pick(m, vars...))
		}
		for range m.Intn(d.conds + 1) {
			r.Body = append(r.Body, m.cond(n, names[:min(len(names), d.rules)], level, arity, near))
		}
		l = append(l, r)
	}
	return m.closed(l, names)
}

func (m maker) cond(n string, names []string, level, arity map[string]int, vars []string) api.Cond {
	if m.Intn(6) == 0 {
		return api.Cond{Kind: api.FEq + m.Intn(2), Neg: m.Intn(2) == 0, Atom: api.Atom{Args: m.args(2, vars)}}
	}
	if m.Intn(2) == 0 {
		x := pick(m, symbols()...)
		return api.Cond{Neg: m.Intn(4) == 0, Atom: api.Atom{Name: x.Name, Args: m.args(x.Arity, vars)}}
	}
	o := pick(m, names...)
	if level[o] > level[n] {
		o = n
	}
	neg := level[o] < level[n] && m.Intn(3) > 0
	return api.Cond{Neg: neg, Atom: api.Atom{Name: o, Args: m.args(arity[o], vars)}}
}

// closed removes the conditions on names that no rule defines.
func (m maker) closed(l []api.Rule, names []string) []api.Rule {
	d := defined(l)
	for i := range l {
		l[i].Body = slices.DeleteFunc(l[i].Body, func(c api.Cond) bool {
			return slices.Contains(names, c.Name) && !slices.Contains(d, c.Name)
		})
	}
	return l
}

// place is what is around a formula that is made.
type place struct {
	vars []string
	rels []api.Symbol // that are bound
}

func (m maker) atom(p place) api.Formula {
	if m.Intn(4) == 0 {
		f := api.Formula{Kind: api.FEq + m.Intn(2), Args: m.args(2, p.vars)}
		return m.negated(f)
	}
	if len(p.rels) > 0 && m.Intn(2) == 0 {
		// Of several ones with the same name, only the last one can be meant.
		x := p.rels[max(m.Intn(len(p.rels)), m.Intn(len(p.rels)))]
		for _, o := range p.rels {
			if o.Name == x.Name {
				x = o
			}
		}
		return api.Formula{Kind: api.FRel, Name: x.Name, Args: m.args(x.Arity, p.vars)}
	}
	x := pick(m, symbols()...)
	f := api.Formula{Kind: api.FRel, Name: x.Name, Args: m.args(x.Arity, p.vars)}
	for _, o := range p.rels {
		if o.Name == x.Name {
			return api.Formula{Kind: api.FLess, Args: m.args(2, p.vars)}
		}
	}
	return m.negated(f)
}

func (m maker) negated(f api.Formula) api.Formula {
	if m.Intn(3) > 0 {
		return f
	}
	return api.Formula{Kind: api.FNot, Kids: []api.Formula{f}}
}

// some returns n different variables out of a few.
func (m maker) some(n int, from []string) []string {
	l := slices.Clone(from)
	m.Shuffle(len(l), func(i, j int) { l[i], l[j] = l[j], l[i] })
	return l[:n]
}

// formula makes a formula of the kinds that rules can express, of at most this many formulas.
func (m maker) formula(nodes int, p place, bound []string) api.Formula {
	if nodes <= 1 {
		if m.Intn(20) == 0 {
			return api.Formula{Kind: api.FAnd + m.Intn(2)}
		}
		return m.atom(p)
	}
	switch m.Intn(8) {
	case 0, 1:
		vars := m.some(1+m.Intn(2), bound)
		inner := place{slices.Concat(p.vars, vars), p.rels}
		return api.Formula{Kind: api.FSome, Vars: vars, Kids: []api.Formula{m.formula(nodes-1, inner, bound)}}
	case 2, 3:
		n := 1 + m.Intn(2)
		f := api.Formula{Kind: api.FLfp, Name: pick(m, "R", "S", "R1", "U", "x"), Vars: m.some(n, bound), Args: m.args(n, p.vars)}
		inner := place{slices.Concat(p.vars, f.Vars), append(slices.Clone(p.rels), api.Symbol{Name: f.Name, Arity: n})}
		f.Kids = []api.Formula{m.formula(nodes-1, inner, bound)}
		return f
	case 4:
		n := 2
		if m.Intn(4) == 0 && len(bound) >= 4 {
			n = 4
		}
		f := api.Formula{Kind: api.FTc, Vars: m.some(n, bound), Args: m.args(n, p.vars)}
		f.Kids = []api.Formula{m.formula(nodes-1, place{slices.Concat(p.vars, f.Vars), p.rels}, bound)}
		return f
	}
	f := api.Formula{Kind: api.FAnd + m.Intn(2)}
	for left := nodes - 1; left > 0; {
		n := 1 + m.Intn(left)
		f.Kids = append(f.Kids, m.formula(n, p, bound))
		left -= n
	}
	return f
}

// short makes a formula with these free variables, or fewer, that is one of at most 12 formulas and soon evaluated for 3 elements.
func (m maker) short(vars, bound []string) api.Formula {
	for {
		f := m.formula(2+m.Intn(11), place{vars: vars}, bound)
		if c, e := mean.Cost(f, 3); e == api.OK && c <= 1<<26 && formula.Size(f) <= 12 {
			return f
		}
	}
}

// blanks writes a text with other blanks between its tokens.
func (m maker) blanks(text string) string {
	var b strings.Builder
	for i, c := range []byte(text) {
		wide := c == ' ' || c == '\n'
		if wide || strings.IndexByte("(),.=<", c) >= 0 || i > 0 && strings.IndexByte("(),.=<", text[i-1]) >= 0 {
			for range m.Intn(3) {
				b.WriteByte(pick[byte](m, ' ', '\n'))
			}
		}
		b.WriteByte(c)
	}
	return b.String()
}
