package rules

import (
	"iter"
	"slices"

	"paraphrast/api"
	"paraphrast/formula"
)

const (
	maxRules = 60 // rules of a program
	maxConds = 20 // conditions of a rule
	maxVars  = 12 // variables of a rule
)

// Valid reports whether l is a program: its rules are valid, each name has one arity, and no relation depends on its own complement.
func Valid(l []api.Rule) bool {
	if len(l) > maxRules {
		return false
	}
	for _, r := range l {
		if !valid(r) {
			return false
		}
	}
	arities := map[string]int{}
	for name, arity := range names(l) {
		if a, known := arities[name]; known && a != arity {
			return false
		}
		arities[name] = arity
	}
	_, stratified := levels(l)
	return stratified
}

func valid(r api.Rule) bool {
	if !named(r.Head) || len(r.Body) > maxConds {
		return false
	}
	for _, c := range r.Body {
		switch c.Kind {
		case api.FRel:
			if !named(c.Atom) {
				return false
			}
		case api.FEq, api.FLess:
			if c.Name != "" || len(c.Args) != 2 || !variable(c.Args) {
				return false
			}
		default:
			return false
		}
	}
	return len(variables(r)) <= maxVars
}

// named reports whether a is the name of a relation with variables.
func named(a api.Atom) bool {
	return formula.Name(a.Name) && len(a.Args) <= api.MaxArity && variable(a.Args)
}

// variable reports whether all of l are names of variables.
func variable(l []string) bool {
	return !slices.ContainsFunc(l, func(v string) bool { return !formula.Name(v) })
}

// variables returns the variables of r in the order in which they occur first.
func variables(r api.Rule) []string {
	var l []string
	add := func(args []string) {
		for _, v := range args {
			if !slices.Contains(l, v) {
				l = append(l, v)
			}
		}
	}
	add(r.Head.Args)
	for _, c := range r.Body {
		add(c.Args)
	}
	return l
}

// names ranges over the names of relations in a program, wherever they occur, with the numbers of their arguments.
func names(l []api.Rule) iter.Seq2[string, int] {
	return func(yield func(string, int) bool) {
		for _, r := range l {
			if !yield(r.Head.Name, len(r.Head.Args)) {
				return
			}
			for _, c := range r.Body {
				if c.Kind == api.FRel && !yield(c.Name, len(c.Args)) {
					return
				}
			}
		}
	}
}

// levels returns the levels of the defined names; false if the program is not stratified.
func levels(l []api.Rule) (map[string]int, bool) {
	level := map[string]int{}
	for _, r := range l {
		level[r.Head.Name] = 0
	}
	for raised := true; raised; {
		raised = false
		for _, r := range l {
			least := lowest(r, level)
			// Each level below that of a name belongs to some other name, unless the levels rise forever.
			if least >= len(level) {
				return nil, false
			}
			if least > level[r.Head.Name] {
				level[r.Head.Name] = least
				raised = true
			}
		}
	}
	return level, true
}

// lowest returns the least level that the conditions of r allow, with these levels of the names that it uses.
func lowest(r api.Rule, level map[string]int) int {
	least := 0
	for _, c := range r.Body {
		below, defined := level[c.Name]
		if defined && c.Neg {
			below++
		}
		least = max(least, below)
	}
	return least
}

// defines returns the arity of name if it is a defined name of l.
func defines(l []api.Rule, name string) (int, bool) {
	for _, r := range l {
		if r.Head.Name == name {
			return len(r.Head.Args), true
		}
	}
	return 0, false
}

// symbols returns the names that l does not define, with their arities, each once.
func symbols(l []api.Rule) []api.Symbol {
	var list []api.Symbol
	for name, arity := range names(l) {
		x := api.Symbol{Name: name, Arity: arity}
		if _, defined := defines(l, name); !defined && !slices.Contains(list, x) {
			list = append(list, x)
		}
	}
	return list
}
