package formula

import "paraphrast/api"

// place counts the formulas around a formula that decide whether it is positive there.
type place struct{ nots, pfps int }

// positive reports whether an occurrence at p is positive in a formula at outer, which is around it.
func (p place) positive(outer place) bool {
	return (p.nots-outer.nots)%2 == 0 && p.pfps == outer.pfps
}

// binding says how a formula around binds the name of a relation.
type binding struct {
	place
	arity    int
	positive bool
}

// use says how a name is used by all of its unbound occurrences.
type use struct {
	arity    int
	positive bool
}

// survey is what a walk through a formula finds. The walk ends at the first part that is not valid, so it is short however large, deep or cyclic an argument is.
type survey struct {
	size, depth int
	symbols     map[string]use  // the names of relations that occur unbound
	free        map[string]bool // the free variables

	here  place
	bound map[string][]binding // for the name of a relation, its bindings around here, innermost last
	vars  map[string]int       // for a variable, how many formulas around here have it among their Vars
}

// look walks through f; it reports false if f is not valid.
func look(f api.Formula) (*survey, bool) {
	s := &survey{
		symbols: map[string]use{},
		free:    map[string]bool{},
		bound:   map[string][]binding{},
		vars:    map[string]int{},
	}
	if !s.walk(f, 1) {
		return nil, false
	}
	return s, true
}

func (s *survey) walk(f api.Formula, depth int) bool {
	s.size++
	s.depth = max(s.depth, depth)
	if s.size > api.MaxNodes || depth > api.MaxDepth || !fits(f) {
		return false
	}
	// The Args are outside of the formula's own Vars.
	for _, v := range f.Args {
		if s.vars[v] == 0 {
			s.free[v] = true
		}
	}
	if f.Kind == api.FRel {
		return s.occurrence(f.Name, len(f.Args))
	}
	s.enter(f)
	for _, kid := range f.Kids {
		if !s.walk(kid, depth+1) {
			return false
		}
	}
	s.leave(f)
	return true
}

// occurrence reports whether a name may have this arity here, and whether it may be here at all.
func (s *survey) occurrence(name string, arity int) bool {
	stack := s.bound[name]
	if len(stack) == 0 {
		return s.unbound(name, arity)
	}
	b := stack[len(stack)-1]
	return arity == b.arity && (!b.positive || s.here.positive(b.place))
}

func (s *survey) unbound(name string, arity int) bool {
	u, seen := s.symbols[name]
	if seen && u.arity != arity {
		return false
	}
	s.symbols[name] = use{arity, s.here.positive(place{}) && (u.positive || !seen)}
	return true
}

// enter notes what the kids of f have around them.
func (s *survey) enter(f api.Formula) {
	switch f.Kind {
	case api.FNot:
		s.here.nots++
	case api.FPfp:
		s.here.pfps++
	}
	if binds(f.Kind) {
		b := binding{s.here, places(f), f.Kind == api.FLfp}
		s.bound[f.Name] = append(s.bound[f.Name], b)
	}
	for _, v := range f.Vars {
		s.vars[v]++
	}
}

// leave undoes what enter has noted.
func (s *survey) leave(f api.Formula) {
	switch f.Kind {
	case api.FNot:
		s.here.nots--
	case api.FPfp:
		s.here.pfps--
	}
	if binds(f.Kind) {
		stack := s.bound[f.Name]
		s.bound[f.Name] = stack[:len(stack)-1]
	}
	for _, v := range f.Vars {
		s.vars[v]--
	}
}

// places returns the arity of the relation whose name f binds.
func places(f api.Formula) int {
	if f.Kind == api.FSecond {
		return f.Arity
	}
	return len(f.Vars)
}
