package fix_test

import (
	"math/rand"
	"slices"
	"strings"

	"paraphrast/api"
	"paraphrast/formula"
	"paraphrast/mean"
)

// maker makes systems, formulas and structures at random.
type maker struct{ *rand.Rand }

func newMaker(seed int64) maker {
	return maker{rand.New(rand.NewSource(seed))}
}

// symbols are those of all structures. R1 is a name that the program may have thought of, and S is one that systems define, too.
func symbols() []api.Symbol {
	return []api.Symbol{{Name: "P", Arity: 1}, {Name: "E", Arity: 2}, {Name: "Q"}, {Name: "R1", Arity: 1}, {Name: "S", Arity: 2}}
}

// structure makes a structure whose E is often a path, so that there are many stages.
func (m maker) structure(n int) api.Structure {
	s := api.Structure{Size: n}
	for _, x := range symbols() {
		often := m.Intn(5)
		r := api.Rel{Name: x.Name, Arity: x.Arity}
		row := m.Perm(n)
		path := x.Name == "E" && m.Intn(2) == 0
		for _, tuple := range tuples(n, x.Arity) {
			if path && row[tuple[1]] == row[tuple[0]]+1 || !path && m.Intn(5) < often {
				r.Tuples = append(r.Tuples, tuple)
			}
		}
		s.Rels = append(s.Rels, r)
	}
	return s
}

// use says where the name of a relation may be used: within an even, or within an odd number of negations.
type use struct {
	api.Symbol
	even, odd bool
}

// place is what is around a formula that is made.
type place struct {
	vars  []string
	uses  []use
	odd   bool // within an odd number of negations
	lfp   bool // least fixed points are allowed
	flat  bool // but not within an FNot
	other bool // other formulas that bind names are allowed
}

// bind returns the place within a formula that binds a name.
func (p place) bind(u use) place {
	p.uses = slices.DeleteFunc(slices.Clone(p.uses), func(o use) bool { return o.Name == u.Name })
	p.uses = append(p.uses, u)
	return p
}

// within returns the place in the kid of a partial fixed point, where no name may be used that must be positive around it.
func (p place) within() place {
	p.uses = slices.DeleteFunc(slices.Clone(p.uses), func(u use) bool { return u.even != u.odd })
	return p
}

func (m maker) args(n int, from []string) []string {
	var l []string
	for range n {
		l = append(l, from[m.Intn(len(from))])
	}
	return l
}

// vars returns n different variables out of a few, so that they are bound again. The name of a relation may be a variable, too.
func (m maker) vars(n int) []string {
	l := names("x y z x1 y1 v1 P")
	m.Shuffle(len(l), func(i, j int) { l[i], l[j] = l[j], l[i] })
	return l[:n]
}

func (m maker) atom(p place) api.Formula {
	if m.Intn(4) == 0 {
		return api.Formula{Kind: api.FEq + m.Intn(2), Args: m.args(2, p.vars)}
	}
	var l []api.Symbol
	for _, u := range p.uses {
		if u.odd && p.odd || u.even && !p.odd {
			l = append(l, u.Symbol)
		}
	}
	if len(l) == 0 {
		return api.Formula{Kind: api.FAnd + m.Intn(2)}
	}
	// Later names are those that are bound nearer, which are more interesting.
	x := l[max(m.Intn(len(l)), m.Intn(len(l)))]
	return api.Formula{Kind: api.FRel, Name: x.Name, Args: m.args(x.Arity, p.vars)}
}

// formula makes a formula that is valid and positive where it must be.
func (m maker) formula(depth int, p place) api.Formula {
	if depth <= 1 {
		return m.atom(p)
	}
	switch kind := m.Intn(12); {
	case kind < 2:
		p.odd = !p.odd
		p.lfp = p.lfp && !p.flat
		return not(m.formula(depth-1, p))
	case kind < 4:
		vars := m.vars(1 + m.Intn(2))
		p.vars = slices.Concat(p.vars, vars)
		return api.Formula{Kind: api.FSome + m.Intn(2), Vars: vars, Kids: []api.Formula{m.formula(depth-1, p)}}
	case kind < 7 && p.lfp:
		return m.fixed(depth, p)
	case kind == 7 && p.other:
		return m.special(depth, p)
	case kind == 8:
		return m.atom(p)
	}
	kids := []api.Formula{m.formula(depth-1, p), m.formula(depth-2, p), m.formula(depth-1, p)}
	return api.Formula{Kind: api.FAnd + m.Intn(2), Kids: kids[:min(3, m.Intn(6))]}
}

// fixed makes an FLfp.
func (m maker) fixed(depth int, p place) api.Formula {
	n := 1 + m.Intn(2)
	f := api.Formula{Kind: api.FLfp, Name: m.args(1, names("R S P R1 R2 x"))[0], Vars: m.vars(n), Args: m.args(n, p.vars)}
	p.vars = slices.Concat(p.vars, f.Vars)
	p = p.bind(use{api.Symbol{Name: f.Name, Arity: n}, !p.odd, p.odd})
	f.Kids = []api.Formula{m.formula(depth-1, p)}
	return f
}

// special makes an FPfp, FTc or FSecond.
func (m maker) special(depth int, p place) api.Formula {
	f := api.Formula{Kind: api.FPfp + m.Intn(3), Name: m.args(1, names("R S P R1 D1"))[0]}
	switch f.Kind {
	case api.FPfp:
		f.Vars, f.Args = m.vars(1), m.args(1, p.vars)
		p = p.within().bind(use{api.Symbol{Name: f.Name, Arity: 1}, true, true})
	case api.FTc:
		f.Name, f.Vars, f.Args = "", m.vars(2), m.args(2, p.vars)
	case api.FSecond:
		f.Arity = m.Intn(2)
		p = p.bind(use{api.Symbol{Name: f.Name, Arity: f.Arity}, true, true})
	}
	p.vars = slices.Concat(p.vars, f.Vars)
	f.Kids = []api.Formula{m.formula(depth-1, p)}
	return f
}

// open returns the place of a whole formula with some free variables.
func open(vars ...string) place {
	p := place{vars: vars, lfp: true, flat: true}
	for _, x := range symbols() {
		p.uses = append(p.uses, use{x, true, true})
	}
	return p
}

// system makes a system of up to n definitions of up to k variables, of which S is also the name of a relation of the structures.
func (m maker) system(n, k int) []api.Def {
	names := strings.Fields("S A B x D1 F G H")
	m.Shuffle(len(names), func(i, j int) { names[i], names[j] = names[j], names[i] })
	defs := make([]api.Def, 1+m.Intn(n))
	around := open()
	around.lfp, around.flat, around.other = m.Intn(2) == 0, false, m.Intn(3) == 0
	for i := range defs {
		defs[i] = api.Def{Name: names[i], Vars: m.vars(1 + m.Intn(k))}
		around = around.bind(use{api.Symbol{Name: names[i], Arity: len(defs[i].Vars)}, true, false})
	}
	for i, d := range defs {
		around.vars = d.Vars
		defs[i].Body = m.cheap(func() api.Formula {
			if m.Intn(2) == 0 {
				return m.formula(2+m.Intn(4), around)
			}
			base := place{vars: d.Vars, uses: open().uses[:2]}
			start := and(m.atom(base), m.atom(base))
			return or(and(m.atom(base), m.formula(3, around)), start, m.step(defs, around))
		})
	}
	return defs
}

// step makes a formula that goes along E from a relation of the system. Without such steps, few systems have many stages.
func (m maker) step(defs []api.Def, p place) api.Formula {
	d := defs[m.Intn(len(defs))]
	end := m.args(1, p.vars)[0]
	return some("w", and(rel("E", "w "+end), rel(d.Name, strings.Join(m.args(len(d.Vars), append(names("w w"), p.vars...)), " "))))
}

// cheap returns the first of the formulas that make makes which is soon evaluated.
func (m maker) cheap(make func() api.Formula) api.Formula {
	for {
		f := make()
		if c, e := mean.Cost(f, 3); e == api.OK && c <= 1<<18 && formula.Valid(f) {
			return f
		}
	}
}

// nested makes a formula with 1 to 8 FLfp, none of them within an FNot.
func (m maker) nested(vars ...string) api.Formula {
	for {
		f := m.cheap(func() api.Formula { return m.formula(3+m.Intn(6), open(vars...)) })
		if n := fixed(f); n > 0 && n <= 8 {
			return f
		}
	}
}
