package rules

import (
	"slices"

	"paraphrast/api"
)

// literal is a condition whose variables are numbers.
type literal struct {
	kind int
	neg  bool
	name string
	args []int
}

// clause is a rule whose variables are numbers.
type clause struct {
	name string
	args []int
	body []literal
}

// rule returns cl with variables v0, v1 and so on.
func (cl clause) rule() api.Rule {
	order := slices.Clone(cl.args)
	for _, l := range cl.body {
		order = append(order, l.args...)
	}
	var vars []int
	for _, v := range order {
		if !slices.Contains(vars, v) {
			vars = append(vars, v)
		}
	}
	names := columns(len(vars))
	named := func(args []int) []string {
		var l []string
		for _, v := range args {
			l = append(l, names[slices.Index(vars, v)])
		}
		return l
	}
	r := api.Rule{Head: api.Atom{Name: cl.name, Args: named(cl.args)}}
	for _, l := range cl.body {
		r.Body = append(r.Body, api.Cond{Kind: l.kind, Neg: l.neg, Atom: api.Atom{Name: l.name, Args: named(l.args)}})
	}
	return r
}

// settled returns cl with one variable for those that must be equal, and without conditions that always hold; false if it can never be applied.
func (cl clause) settled() (clause, bool) {
	equal := map[int]int{}
	root := func(v int) int {
		for {
			w, is := equal[v]
			if !is {
				return v
			}
			v = w
		}
	}
	for _, l := range cl.body {
		if l.kind == api.FEq && !l.neg {
			if x, y := root(l.args[0]), root(l.args[1]); x != y {
				equal[max(x, y)] = min(x, y)
			}
		}
	}
	roots := func(args []int) []int {
		var l []int
		for _, v := range args {
			l = append(l, root(v))
		}
		return l
	}
	result := clause{name: cl.name, args: roots(cl.args)}
	for _, l := range cl.body {
		l.args = roots(l.args)
		if l.kind == api.FRel || l.args[0] != l.args[1] {
			result.body = append(result.body, l)
		} else if l.neg == (l.kind == api.FEq) {
			return clause{}, false
		}
	}
	return result, true
}

// settle settles all clauses.
func (c *collector) settle() {
	var l []clause
	for _, cl := range c.clauses {
		if settled, possible := cl.settled(); possible {
			l = append(l, settled)
		}
	}
	c.clauses = l
}

// prune removes the clauses that are never applied because some relation is always empty, and those that do not contribute to the relation of name.
func (c *collector) prune(name string) {
	filled := map[string]bool{}
	possible := func(cl clause) bool {
		return !slices.ContainsFunc(cl.body, func(l literal) bool { return c.own[l.name] && !filled[l.name] })
	}
	for count := -1; count < len(filled); {
		count = len(filled)
		for _, cl := range c.clauses {
			if possible(cl) {
				filled[cl.name] = true
			}
		}
	}
	c.clauses = slices.DeleteFunc(c.clauses, func(cl clause) bool { return !possible(cl) })
	needed := map[string]bool{name: true}
	for count := 0; count < len(needed); {
		count = len(needed)
		for _, cl := range c.clauses {
			for _, l := range cl.body {
				if needed[cl.name] && c.own[l.name] {
					needed[l.name] = true
				}
			}
		}
	}
	c.clauses = slices.DeleteFunc(c.clauses, func(cl clause) bool { return !needed[cl.name] })
}
