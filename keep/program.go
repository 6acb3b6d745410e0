package keep

import (
	"slices"

	"paraphrast/api"
	"paraphrast/rules"
	"paraphrast/shape"
)

// program is a program of rules for structures of one size. It is never changed, so that a keeper and its clones share it.
type program struct {
	size  int
	rels  []api.Symbol // the relations, in the order of their numbers: those of the structure, then the defined ones
	heads [][]*join    // for each relation, how to search for the derivations of a tuple; none unless it is defined
	uses  [][][]*join  // for each level and each relation, how to search for what is derived from one of its tuples
}

// part is a condition of a rule, or its head, with numbers for its relation and its variables.
type part struct {
	kind int
	neg  bool
	rel  int
	args []int
	head bool
}

// compile returns the program of l, where rels are all relations in their order.
func compile(l []api.Rule, rels []api.Symbol, size int) *program {
	p := &program{size: size, rels: rels, heads: make([][]*join, len(rels))}
	names, levels, _ := rules.Levels(l)
	// There are at most as many levels as names.
	for range names {
		p.uses = append(p.uses, make([][]*join, len(rels)))
	}
	for _, r := range l {
		p.add(r, levels[slices.Index(names, r.Head.Name)])
	}
	return p
}

// add adds a rule of a level.
func (p *program) add(r api.Rule, level int) {
	var vars []string
	numbers := func(args []string) []int {
		var l []int
		for _, v := range args {
			if !slices.Contains(vars, v) {
				vars = append(vars, v)
			}
			l = append(l, slices.Index(vars, v))
		}
		return l
	}
	head := &part{rel: p.find(r.Head.Name, len(r.Head.Args)), args: numbers(r.Head.Args), head: true}
	parts := []*part{head}
	for _, c := range r.Body {
		parts = append(parts, &part{kind: c.Kind, neg: c.Neg, rel: p.find(c.Name, len(c.Args)), args: numbers(c.Args)})
	}
	p.heads[head.rel] = append(p.heads[head.rel], newJoin(parts, head, len(vars)))
	for _, x := range parts[1:] {
		if x.kind == api.FRel {
			p.uses[level][x.rel] = append(p.uses[level][x.rel], newJoin(parts, x, len(vars)))
		}
	}
}

// find returns the number of a relation, or -1.
func (p *program) find(name string, arity int) int {
	return slices.Index(p.rels, api.Symbol{Name: name, Arity: arity})
}

// defined reports whether there are rules for a relation.
func (p *program) defined(rel int) bool {
	return len(p.heads[rel]) > 0
}

func (p *program) tuple(f fact) []int {
	t, _ := shape.Tuple(p.size, p.rels[f.rel].Arity, f.rank)
	return t
}

// fact returns the fact that x, an FRel, stands for with these values.
func (p *program) fact(x *part, values []int) fact {
	rank := 0
	for _, v := range x.args {
		rank = rank*p.size + values[v]
	}
	return fact{x.rel, rank}
}
