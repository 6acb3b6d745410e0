package rules

import "slices"

// group says for each condition of a clause whether it belongs to a part that gets a name.
type group []bool

// narrow returns clauses for cl with few variables and few conditions, as far as that is possible.
func (c *collector) narrow(cl clause) []clause {
	var l []clause
	for {
		g := cl.group(c.width)
		if g == nil {
			return append(l, cl)
		}
		part := clause{c.fresh(), cl.shared(g), cl.conditions(g, true)}
		l = append(l, c.narrow(part)...)
		cl.body = append(cl.conditions(g, false), literal{name: part.name, args: part.args})
	}
}

// group returns the conditions of cl that should get a name, nil if there are none. It panics if there are more variables than a program has.
func (cl clause) group(width int) group {
	all := unique(slices.Concat(cl.args, vars(cl.body)))
	if len(all) > maxRules*maxVars {
		panic(tooMuch{})
	}
	if len(all) > width {
		if g := cl.local(all, width); g != nil {
			return g
		}
	}
	if len(cl.body) <= maxConds {
		return nil
	}
	g := make(group, len(cl.body))
	for i := range maxConds {
		g[i] = true
	}
	return g
}

// local returns the conditions with a variable that occurs only in few other conditions, and then those with others of its kind, as long as they have few variables; nil if that would not make cl smaller.
func (cl clause) local(all []int, width int) group {
	var g group
	own := slices.DeleteFunc(slices.Clone(all), func(v int) bool { return slices.Contains(cl.args, v) })
	least := len(all)
	for _, v := range own {
		around := cl.include(make(group, len(cl.body)), v)
		if count := len(cl.within(around)); count < least {
			g, least = around, count
		}
	}
	if g == nil {
		return nil
	}
	for _, v := range own {
		if larger := cl.include(g, v); len(cl.within(larger)) <= width {
			g = larger
		}
	}
	return g
}

// include returns g and the conditions with v.
func (cl clause) include(g group, v int) group {
	g = slices.Clone(g)
	for i, l := range cl.body {
		if slices.Contains(l.args, v) {
			g[i] = true
		}
	}
	return g
}

// conditions returns the conditions of cl that belong to g, or the others.
func (cl clause) conditions(g group, in bool) []literal {
	var l []literal
	for i, is := range g {
		if is == in {
			l = append(l, cl.body[i])
		}
	}
	return l
}

// within returns the variables of the conditions of g.
func (cl clause) within(g group) []int {
	return vars(cl.conditions(g, true))
}

// shared returns the variables of the conditions of g that occur elsewhere, too.
func (cl clause) shared(g group) []int {
	others := slices.Concat(cl.args, vars(cl.conditions(g, false)))
	return slices.DeleteFunc(cl.within(g), func(v int) bool { return !slices.Contains(others, v) })
}

// vars returns the variables of some conditions, each once.
func vars(body []literal) []int {
	var l []int
	for _, a := range body {
		l = append(l, a.args...)
	}
	return unique(l)
}
