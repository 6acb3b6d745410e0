package norm

import (
	"maps"
	"slices"
	"strconv"

	"paraphrast/api"
	"paraphrast/formula"
)

// scope says which names the variables around a formula have now; those that it does not mention have their old ones.
type scope map[string]string

// binder returns the name that a variable v of a formula is to have. The scope is the one around that formula, without its Vars.
type binder func(v string, around scope) string

// Apart returns f with other names of bound variables: each variable is bound at most once, and none is both bound and free.
func Apart(f api.Formula) (api.Formula, api.Errno) {
	if !formula.Valid(f) {
		return api.Formula{}, api.ErrForm
	}
	n := newNamer(f)
	g := renamed(f, scope{}, func(v string, _ scope) string { return n.own(v) })
	return within(g)
}

// Rename returns f with the free occurrences of a variable replaced by another one.
func Rename(f api.Formula, from, to string) (api.Formula, api.Errno) {
	if !formula.Valid(f) {
		return api.Formula{}, api.ErrForm
	}
	if !formula.Name(from) || !formula.Name(to) {
		return api.Formula{}, api.ErrName
	}
	if captures(f, from, to) {
		return api.Formula{}, api.ErrArg
	}
	keep := func(v string, _ scope) string { return v }
	return within(renamed(f, scope{from: to}, keep))
}

// captures reports whether a free occurrence of from is within the kid of a formula that binds to.
func captures(f api.Formula, from, to string) bool {
	if slices.Contains(f.Vars, from) {
		return false
	}
	if slices.Contains(f.Vars, to) {
		return slices.Contains(formula.Free(f.Kids[0]), from)
	}
	for _, kid := range f.Kids {
		if captures(kid, from, to) {
			return true
		}
	}
	return false
}

// renamed returns f with its free variables named as names says, and its bound ones as bind does.
func renamed(f api.Formula, names scope, bind binder) api.Formula {
	vars, inner := names.enter(f.Vars, bind)
	g := each(f, func(kid api.Formula) api.Formula { return renamed(kid, inner, bind) })
	g.Vars, g.Args = vars, names.of(f.Args)
	return g
}

// enter returns the new names of the Vars of a formula, and the scope in its kid.
func (names scope) enter(vars []string, bind binder) ([]string, scope) {
	if len(vars) == 0 {
		return nil, names
	}
	inner := maps.Clone(names)
	for _, v := range vars {
		delete(inner, v)
	}
	var chosen []string
	for _, v := range vars {
		chosen = append(chosen, bind(v, inner))
	}
	for i, v := range vars {
		inner[v] = chosen[i]
	}
	return chosen, inner
}

// of returns the names that variables have now.
func (names scope) of(vars []string) []string {
	var l []string
	for _, v := range vars {
		if name, is := names[v]; is {
			v = name
		}
		l = append(l, v)
	}
	return l
}

// namer gives names to the bound variables of formulas that are made of others.
type namer struct {
	known map[string]bool // the variables of the others, which no new name is equal to
	taken map[string]bool // those of them that are free, or have been given
	count int             // of new names
}

func newNamer(fs ...api.Formula) *namer {
	n := &namer{known: variables(fs...), taken: map[string]bool{}}
	for _, f := range fs {
		for _, v := range formula.Free(f) {
			n.taken[v] = true
		}
	}
	return n
}

// next returns a new name.
func (n *namer) next() string {
	for {
		n.count++
		if v := "v" + strconv.Itoa(n.count); !n.known[v] {
			return v
		}
	}
}

// own returns a name that it returns only once and that no free variable has: v if possible.
func (n *namer) own(v string) string {
	if n.taken[v] {
		return n.next()
	}
	n.taken[v] = true
	return v
}

// avoid is a binder by which no variable is bound that has become the name of another one.
func (n *namer) avoid(v string, around scope) string {
	for _, name := range around {
		if name == v {
			return n.next()
		}
	}
	return v
}

// put returns f with args as the values of vars, which stand for all of its free variables.
func (n *namer) put(f api.Formula, vars, args []string) api.Formula {
	values := scope{}
	for i, v := range vars {
		values[v] = args[i]
	}
	return renamed(f, values, n.avoid)
}
