package norm

import (
	"slices"

	"paraphrast/api"
	"paraphrast/formula"
)

// prefix is what the quantifiers become that are pulled out of a formula: blocks of variables, the outermost one first. Even blocks are for FSome, odd ones for FAll.
type prefix struct {
	names  *namer
	blocks [][]string
}

// spot says what is around a formula.
type spot struct {
	block   int // of the innermost quantifier
	negated bool
	scope   scope
}

// use says how many variables of each block are in use. Of quantifiers within each other, the first one is in block 1 at most, the second one in block 2 at most, and so on; below the last one there is a level for its kid.
type use [api.MaxDepth]int

// Prenex returns a formula with the meaning of f in which all quantifiers are at the beginning.
func Prenex(f api.Formula) (api.Formula, api.Errno) {
	if !formula.Valid(f) {
		return api.Formula{}, api.ErrForm
	}
	if !first(f) {
		return api.Formula{}, api.ErrArg
	}
	p := &prefix{names: newNamer(f)}
	g, _ := p.pull(f, spot{scope: scope{}}, use{})
	return within(p.before(g))
}

// pull returns f without its quantifiers, whose variables become those of blocks that are not in use, and the use of the blocks after that.
func (p *prefix) pull(f api.Formula, at spot, used use) (api.Formula, use) {
	switch f.Kind {
	case api.FSome, api.FAll:
		if at.block%2 != at.side(f.Kind) {
			at.block++
		}
		_, at.scope = at.scope.enter(f.Vars, func(v string, _ scope) string {
			used[at.block]++
			return p.variable(at.block, used[at.block]-1, v)
		})
		return p.pull(f.Kids[0], at, used)
	case api.FNot:
		at.negated = !at.negated
	}
	after := used
	g := each(f, func(kid api.Formula) api.Formula {
		h, now := p.pull(kid, at, used)
		for i := range now {
			after[i] = max(after[i], now[i])
			// FSome can be exchanged with FOr, and FAll with FAnd: there the kids share variables.
			if i%2 != at.side(f.Kind) {
				used[i] = now[i]
			}
		}
		return h
	})
	g.Args = at.scope.of(f.Args)
	return g, after
}

// side returns 0 if a formula of this kind is there, negations considered, a choice, as FSome and FOr are, and 1 otherwise.
func (at spot) side(kind int) int {
	if (kind == api.FSome || kind == api.FOr) != at.negated {
		return 0
	}
	return 1
}

// variable returns variable i of a block; a new one is called v if possible.
func (p *prefix) variable(block, i int, v string) string {
	for block >= len(p.blocks) {
		p.blocks = append(p.blocks, nil)
	}
	if i >= len(p.blocks[block]) {
		p.blocks[block] = append(p.blocks[block], p.names.own(v))
	}
	return p.blocks[block][i]
}

// before returns f with the quantifiers before it.
func (p *prefix) before(f api.Formula) api.Formula {
	for i, vars := range slices.Backward(p.blocks) {
		kind := api.FSome
		if i%2 == 1 {
			kind = api.FAll
		}
		for len(vars) > 0 {
			start := (len(vars) - 1) / api.MaxArity * api.MaxArity
			f = api.Formula{Kind: kind, Vars: fresh(vars[start:]), Kids: []api.Formula{f}}
			vars = vars[:start]
		}
	}
	return f
}
