package fix

import (
	"cmp"
	"math/bits"
	"slices"

	"paraphrast/api"
	"paraphrast/formula"
	"paraphrast/norm"
)

// union makes one relation of those of a system. Its tuples are those of the system, with marks before them that say of which definition they are.
type union struct {
	namer
	defs    []api.Def
	name    string   // of the relation
	columns []string // its variables
	other   string   // a variable for marks
	marks   [][]bool // for each definition: whether a mark differs from the last component of the tuple, or is equal to it
}

// One returns a formula with one more FLfp than a system has, for the relation of its definition i in the least fixed point.
func One(defs []api.Def, i int) (api.Formula, api.Errno) {
	if !isSystem(defs) {
		return api.Formula{}, api.ErrForm
	}
	if i < 0 || i >= len(defs) {
		return api.Formula{}, api.ErrArg
	}
	u := newUnion(defs, i)
	if len(u.columns) > api.MaxArity {
		return api.Formula{}, api.ErrSize
	}
	var parts []api.Formula
	for j := range defs {
		part, e := u.part(j)
		if e != api.OK {
			return api.Formula{}, e
		}
		parts = append(parts, part)
	}
	f := api.Formula{
		Kind: api.FLfp,
		Name: u.name,
		Vars: u.columns,
		Args: u.tuple(i, defs[i].Vars),
		Kids: []api.Formula{list(api.FOr, parts...)},
	}
	if !formula.Valid(f) {
		return api.Formula{}, api.ErrSize
	}
	return f, api.OK
}

func newUnion(defs []api.Def, first int) *union {
	u := &union{namer: newNamer(), defs: defs, marks: marks(defs, first)}
	for _, d := range defs {
		u.read(d.Body)
		u.note(d.Vars)
		u.note([]string{d.Name})
	}
	u.name, u.other = u.fresh("R"), u.fresh("y")
	for range len(u.marks[first]) + len(defs[first].Vars) {
		u.columns = append(u.columns, u.fresh("x"))
	}
	return u
}

// marks gives each definition of k variables 2^k of the places in a row, and to each the digits with which all of its places begin. So no marks begin with those of another definition, as few as possible are needed, and as all places are moved together, those of definition first are all false.
func marks(defs []api.Def, first int) [][]bool {
	order := make([]int, len(defs))
	for j := range defs {
		order[j] = j
	}
	slices.SortStableFunc(order, func(a, b int) int { return cmp.Compare(len(defs[b].Vars), len(defs[a].Vars)) })
	places := make([]int, len(defs))
	count := 0
	for _, j := range order {
		places[j] = count
		count += 1 << len(defs[j].Vars)
	}
	l := make([][]bool, len(defs))
	for j, d := range defs {
		place := places[j] ^ places[first]
		for digit := bits.Len(uint(count-1)) - 1; digit >= len(d.Vars); digit-- {
			l[j] = append(l[j], place>>digit&1 == 1)
		}
	}
	return l
}

// part returns the formula that says which tuples of the relation are of definition j.
func (u *union) part(j int) (api.Formula, api.Errno) {
	own := u.columns[len(u.marks[j]):]
	body, e := u.body(u.defs[j], own)
	if e != api.OK {
		return api.Formula{}, e
	}
	var kids []api.Formula
	for k, differs := range u.marks[j] {
		kids = append(kids, equal(u.columns[k], own[len(own)-1], !differs))
	}
	return list(api.FAnd, append(kids, body)...), api.OK
}

// body returns the Body of d with columns in place of its Vars and the one relation in place of those of the system.
func (u *union) body(d api.Def, columns []string) (f api.Formula, e api.Errno) {
	f = d.Body
	for j, o := range u.defs {
		f, e = norm.Replace(f, api.Def{Name: o.Name, Vars: o.Vars, Body: u.has(j, o.Vars)})
		if e != api.OK {
			return api.Formula{}, e
		}
	}
	for i, v := range d.Vars {
		f, e = norm.Rename(f, v, columns[i])
		if e != api.OK {
			return api.Formula{}, e
		}
	}
	return f, api.OK
}

// has returns the formula that says that the values of vars are in the relation of definition j. Every mark that differs stands for all the others that do.
func (u *union) has(j int, vars []string) api.Formula {
	f := api.Formula{Kind: api.FRel, Name: u.name, Args: u.tuple(j, vars)}
	if !slices.Contains(u.marks[j], true) {
		return f
	}
	differs := equal(u.other, vars[len(vars)-1], false)
	return api.Formula{Kind: api.FSome, Vars: []string{u.other}, Kids: []api.Formula{list(api.FAnd, differs, f)}}
}

// tuple returns the marks of definition j and then vars.
func (u *union) tuple(j int, vars []string) []string {
	var l []string
	for _, differs := range u.marks[j] {
		if differs {
			l = append(l, u.other)
		} else {
			l = append(l, vars[len(vars)-1])
		}
	}
	return append(l, vars...)
}

// equal returns the formula that says that the values of two variables are equal, or that they are not.
func equal(x, y string, is bool) api.Formula {
	f := api.Formula{Kind: api.FEq, Args: []string{x, y}}
	if is {
		return f
	}
	return api.Formula{Kind: api.FNot, Kids: []api.Formula{f}}
}

// list returns the formula, FAnd or FOr, for some kids: the kid itself if there is only one.
func list(kind int, kids ...api.Formula) api.Formula {
	if len(kids) == 1 {
		return kids[0]
	}
	return api.Formula{Kind: kind, Kids: kids}
}
