package rules

import (
	"maps"
	"slices"
	"strconv"

	"paraphrast/api"
	"paraphrast/formula"
)

// collector writes clauses for a formula. Each variable that is bound becomes a number of its own, so that those within a part have greater numbers than those around it.
type collector struct {
	measure
	known   map[string]bool // the names that the formula has
	own     map[string]bool // the names that are defined
	count   int             // of variables
	clauses []clause
}

// relation is what a fixed point becomes: a defined name, whose arguments begin with the variables around it on which it depends.
type relation struct {
	name   string
	params []int
}

// has returns the condition that a tuple is in the relation.
func (r relation) has(args []int) literal {
	return literal{name: r.name, args: slices.Concat(r.params, args)}
}

// scope says what the names around a formula denote.
type scope struct {
	vars map[string]int
	rels map[string]relation
}

// with returns the scope in which vars denote these numbers.
func (s scope) with(vars []string, numbers []int) scope {
	inner := maps.Clone(s.vars)
	for i, v := range vars {
		inner[v] = numbers[i]
	}
	return scope{inner, s.rels}
}

// binds returns the scope in which name denotes r.
func (s scope) binds(name string, r relation) scope {
	inner := maps.Clone(s.rels)
	inner[name] = r
	return scope{s.vars, inner}
}

// of returns the numbers that vars denote.
func (s scope) of(vars []string) []int {
	var l []int
	for _, v := range vars {
		l = append(l, s.vars[v])
	}
	return l
}

func newCollector(f api.Formula, m measure) *collector {
	c := &collector{measure: m, known: map[string]bool{}, own: map[string]bool{}}
	c.read(f)
	return c
}

// read notes the names of relations in f.
func (c *collector) read(f api.Formula) {
	c.known[f.Name] = true
	for _, kid := range f.Kids {
		c.read(kid)
	}
}

// fresh returns a name that neither the formula has nor another relation. It panics if there are more names than a program has rules.
func (c *collector) fresh() string {
	if len(c.own) == maxRules {
		panic(tooMuch{})
	}
	for i := 1; ; i++ {
		name := "R" + strconv.Itoa(i)
		if !c.known[name] && !c.own[name] {
			c.own[name] = true
			return name
		}
	}
}

// numbers returns n new variables.
func (c *collector) numbers(n int) []int {
	var l []int
	for range n {
		l = append(l, c.count)
		c.count++
	}
	return l
}

func (c *collector) add(name string, args []int, body []literal) {
	c.clauses = append(c.clauses, clause{name, args, body})
}

// program returns the rules for f, and the name whose relation are the values of vars for which it holds; no rules if they would be too many.
func (c *collector) program(f api.Formula, vars []string) (l []api.Rule, name string) {
	defer func() {
		if _, is := recover().(tooMuch); is {
			l, name = nil, ""
		}
	}()
	args := c.numbers(len(vars))
	ways := c.ways(f, scope{map[string]int{}, map[string]relation{}}.with(vars, args))
	if c.alias(ways, args) {
		name = ways[0][0].name
	} else {
		name = c.fresh()
		for _, way := range ways {
			c.add(name, args, way)
		}
	}
	c.settle()
	c.prune(name)
	if len(c.clauses) == 0 {
		x := c.numbers(1)[0]
		c.add(name, args, []literal{{kind: api.FLess, args: []int{x, x}}})
	}
	for _, cl := range c.clauses {
		for _, small := range c.narrow(cl) {
			l = append(l, small.rule())
		}
	}
	return l, name
}

// alias reports whether some ways say only that args are in a relation that is defined.
func (c *collector) alias(ways [][]literal, args []int) bool {
	return len(ways) == 1 && len(ways[0]) == 1 && c.own[ways[0][0].name] && slices.Equal(ways[0][0].args, args)
}

// ways returns the ways in which f may hold: for each of them, all that must hold.
func (c *collector) ways(f api.Formula, at scope) (l [][]literal) {
	switch f.Kind {
	case api.FNot:
		a := c.atom(f.Kids[0], at)
		a.neg = true
		return [][]literal{{a}}
	case api.FAnd:
		return c.all(f.Kids, at)
	case api.FOr:
		for _, kid := range f.Kids {
			l = append(l, c.ways(kid, at)...)
			limit(l)
		}
		return l
	case api.FSome:
		return c.ways(f.Kids[0], at.with(f.Vars, c.numbers(len(f.Vars))))
	case api.FLfp:
		return c.fixed(f, at)
	case api.FTc:
		return [][]literal{{c.path(f, at)}}
	}
	return [][]literal{{c.atom(f, at)}}
}

// limit panics if there are more ways than a program has rules, or more conditions in them than these rules have.
func limit(ways [][]literal) {
	count := 0
	for _, way := range ways {
		count += len(way)
	}
	if len(ways) > maxRules || count > maxRules*maxConds {
		panic(tooMuch{})
	}
}

func (c *collector) atom(f api.Formula, at scope) literal {
	args := at.of(f.Args)
	if r, bound := at.rels[f.Name]; bound {
		return r.has(args)
	}
	return literal{kind: f.Kind, name: f.Name, args: args}
}

// all returns the ways in which all of kids hold.
func (c *collector) all(kids []api.Formula, at scope) [][]literal {
	ways := [][]literal{nil}
	for _, kid := range kids {
		first := c.count
		l := c.ways(kid, at)
		if len(ways) > 1 && len(l) > 1 && len(ways)*len(l) > c.most {
			l = c.named(l, first)
		}
		var longer [][]literal
		for _, way := range ways {
			for _, more := range l {
				longer = append(longer, slices.Concat(way, more))
			}
		}
		ways = longer
		limit(ways)
	}
	return ways
}

// named returns the one way that stands for some others, which define a name. The variables from first on occur in them only.
func (c *collector) named(ways [][]literal, first int) [][]literal {
	args := vars(slices.Concat(ways...))
	args = slices.DeleteFunc(args, func(v int) bool { return v >= first })
	name := c.fresh()
	for _, way := range ways {
		c.add(name, args, way)
	}
	return [][]literal{{{name: name, args: args}}}
}

// fixed returns the ways in which an FLfp holds.
func (c *collector) fixed(f api.Formula, at scope) [][]literal {
	kid, args := f.Kids[0], at.of(f.Args)
	own := func(x api.Symbol) bool { return x.Name == f.Name }
	if !slices.ContainsFunc(formula.Symbols(kid), own) {
		return c.ways(kid, at.with(f.Vars, args))
	}
	r := relation{c.fresh(), params(f, at)}
	places := c.numbers(len(f.Vars))
	for _, way := range c.ways(kid, at.with(f.Vars, places).binds(f.Name, r)) {
		c.add(r.name, r.has(places).args, way)
	}
	return [][]literal{{r.has(args)}}
}

// path returns the condition that an FTc holds: its second Args are reached from the first ones, or the first ones from the second ones backwards.
func (c *collector) path(f api.Formula, at scope) literal {
	k := len(f.Vars) / 2
	places := c.numbers(len(f.Vars))
	from, to := at.of(f.Args[:k]), at.of(f.Args[k:])
	last, next := places[:k], places[k:]
	around := params(f, at)
	starts := unique(slices.Concat(around, from))
	if ends := unique(slices.Concat(around, to)); len(ends) < len(starts) {
		starts = ends
		from, to = to, from
		last, next = next, last
	}
	r := relation{c.fresh(), starts}
	c.add(r.name, r.has(from).args, nil)
	for _, way := range c.ways(f.Kids[0], at.with(f.Vars, places)) {
		c.add(r.name, r.has(next).args, slices.Concat([]literal{r.has(last)}, way))
	}
	return r.has(to)
}

// params returns the variables around an FLfp or FTc on which what it defines depends: those that are free in its kid, and those on which the relations depend that the kid asks for.
func params(f api.Formula, at scope) []int {
	var l []int
	for _, v := range formula.Free(f.Kids[0]) {
		if !slices.Contains(f.Vars, v) {
			l = append(l, at.vars[v])
		}
	}
	for _, x := range formula.Symbols(f.Kids[0]) {
		if x.Name != f.Name {
			l = append(l, at.rels[x.Name].params...)
		}
	}
	return unique(l)
}

// unique returns each of some variables once, rising.
func unique(l []int) []int {
	l = slices.Sorted(slices.Values(l))
	return slices.Compact(l)
}
