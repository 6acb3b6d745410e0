package rules

import (
	"maps"
	"slices"
	"strconv"

	"paraphrast/api"
	"paraphrast/fix"
)

const maxDefs = 8 // definitions of a system

// tooMuch is what the methods of a builder panic with when the formula is too large.
type tooMuch struct{}

// builder writes a formula for a program, in which each relation is described wherever it is asked for.
type builder struct {
	rules []api.Rule
	level map[string]int
	uses  map[string]map[string]bool // the names that a defined name uses, directly or indirectly
	nodes int
}

func newBuilder(l []api.Rule) *builder {
	b := &builder{rules: l, uses: map[string]map[string]bool{}}
	b.level, _ = levels(l)
	for name := range b.level {
		b.uses[name] = map[string]bool{}
		b.follow(name, b.uses[name])
	}
	return b
}

// follow adds to seen the names that name uses, directly or indirectly.
func (b *builder) follow(name string, seen map[string]bool) {
	for _, r := range b.rules {
		if r.Head.Name != name {
			continue
		}
		for _, c := range r.Body {
			if c.Kind == api.FRel && !seen[c.Name] {
				seen[c.Name] = true
				b.follow(c.Name, seen)
			}
		}
	}
}

// node returns f, which is a part of the result.
func (b *builder) node(f api.Formula) api.Formula {
	b.nodes++
	if b.nodes > api.MaxNodes {
		panic(tooMuch{})
	}
	return f
}

// list returns the formula, FAnd or FOr, for some kids: the kid itself if there is only one.
func (b *builder) list(kind int, kids []api.Formula) api.Formula {
	if len(kids) == 1 {
		return kids[0]
	}
	return b.node(api.Formula{Kind: kind, Kids: kids})
}

// some returns the formula that says that there are values of vars with all of kids.
func (b *builder) some(vars []string, kids ...api.Formula) api.Formula {
	f := b.list(api.FAnd, kids)
	if len(vars) == 0 {
		return f
	}
	return b.node(api.Formula{Kind: api.FSome, Vars: vars, Kids: []api.Formula{f}})
}

// holds returns a formula that says that the values of args are in a relation; those of open have a definition around it.
func (b *builder) holds(name string, args []string, open map[string]bool) api.Formula {
	_, defined := b.level[name]
	switch {
	case open[name] && len(args) == 0:
		// A definition has variables even if the relation has no places.
		v := columns(1)
		return b.some(v, b.holds(name, v, open))
	case open[name] || !defined:
		return b.node(api.Formula{Kind: api.FRel, Name: name, Args: slices.Clone(args)})
	case b.uses[name][name]:
		return b.least(name, args, open)
	}
	return b.cases(name, args, open)
}

// cases returns a formula that says that the values of args are in a relation because of one of its rules.
func (b *builder) cases(name string, args []string, open map[string]bool) api.Formula {
	var kids []api.Formula
	for _, r := range b.rules {
		if r.Head.Name == name {
			kids = append(kids, b.applied(r, args, open))
		}
	}
	return b.list(api.FOr, kids)
}

// applied returns a formula that says that r is applied with args for the variables of its head.
func (b *builder) applied(r api.Rule, args []string, open map[string]bool) api.Formula {
	var kids []api.Formula
	value := map[string]string{}
	for i, v := range r.Head.Args {
		if x, known := value[v]; !known {
			value[v] = args[i]
		} else if x != args[i] {
			kids = append(kids, b.equal(x, args[i]))
		}
	}
	var own []string
	for _, v := range variables(r) {
		if _, known := value[v]; !known {
			value[v] = other(args, own)
			own = append(own, value[v])
		}
	}
	for _, c := range r.Body {
		kids = append(kids, b.condition(c, value, open))
	}
	return b.some(own, kids...)
}

func (b *builder) equal(x, y string) api.Formula {
	return b.node(api.Formula{Kind: api.FEq, Args: []string{x, y}})
}

// condition returns a formula for c with other variables.
func (b *builder) condition(c api.Cond, value map[string]string, open map[string]bool) (f api.Formula) {
	var args []string
	for _, v := range c.Args {
		args = append(args, value[v])
	}
	if c.Kind == api.FRel {
		f = b.holds(c.Name, args, open)
	} else {
		f = b.node(api.Formula{Kind: c.Kind, Args: args})
	}
	if c.Neg {
		f = b.node(api.Formula{Kind: api.FNot, Kids: []api.Formula{f}})
	}
	return f
}

// least returns a formula for a relation that depends on itself: a fixed point of its definition and those that belong to it.
func (b *builder) least(name string, args []string, open map[string]bool) api.Formula {
	system := b.system(name, open)
	inner := map[string]bool{}
	maps.Copy(inner, open)
	for _, n := range system {
		inner[n] = true
	}
	vars := different(args)
	defs := []api.Def{{Name: name, Vars: vars, Body: b.cases(name, vars, inner)}}
	for _, n := range system[1:] {
		arity, _ := defines(b.rules, n)
		own := columns(max(arity, 1))
		defs = append(defs, api.Def{Name: n, Vars: own, Body: b.cases(n, own, inner)})
	}
	f, e := fix.One(defs, 0)
	if e != api.OK {
		panic(tooMuch{})
	}
	var own []string
	var kids []api.Formula
	for i, v := range vars {
		if i >= len(args) {
			own = append(own, v)
		} else if v != args[i] {
			own = append(own, v)
			kids = append(kids, b.equal(v, args[i]))
		}
	}
	return b.some(own, append(kids, b.node(f))...)
}

// system returns name and the other names that are defined together with it: those that it uses, depend on themselves and have its level, so that they are used without negations only.
func (b *builder) system(name string, open map[string]bool) []string {
	l := []string{name}
	for _, n := range slices.Sorted(maps.Keys(b.level)) {
		together := n != name && b.uses[name][n] && b.uses[n][n] && b.level[n] == b.level[name]
		if together && !open[n] && len(l) < maxDefs {
			l = append(l, n)
		}
	}
	return l
}

// columns returns n variables v0, v1 and so on.
func columns(n int) []string {
	var l []string
	for i := range n {
		l = append(l, "v"+strconv.Itoa(i))
	}
	return l
}

// other returns the first variable of v0, v1 and so on that is in none of some lists.
func other(lists ...[]string) string {
	all := slices.Concat(lists...)
	for i := 0; ; i++ {
		if v := "v" + strconv.Itoa(i); !slices.Contains(all, v) {
			return v
		}
	}
}

// different returns args with other variables in place of those that occur before, and at least one variable.
func different(args []string) []string {
	l := slices.Clone(args)
	for i, v := range l {
		if slices.Contains(l[:i], v) {
			l[i] = other(l)
		}
	}
	if len(l) == 0 {
		return columns(1)
	}
	return l
}
