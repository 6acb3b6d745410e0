package mean_test

import (
	"math/big"
	"slices"

	"paraphrast/api"
)

// This file evaluates formulas as the chapter defines it, one definition after the other and without any haste.

// world is a structure with values for variables and relations for names. Relations are sets of tuples, as strings of bytes.
type world struct {
	size      int
	values    map[string]int
	relations map[string]map[string]bool
}

func worldOf(s api.Structure) world {
	w := world{s.Size, map[string]int{}, map[string]map[string]bool{}}
	for _, r := range s.Rels {
		w.relations[r.Name] = map[string]bool{}
		for _, tuple := range r.Tuples {
			w.relations[r.Name][key(tuple)] = true
		}
	}
	return w
}

func key(tuple []int) string {
	var b []byte
	for _, x := range tuple {
		b = append(b, byte(x))
	}
	return string(b)
}

// at returns the world in which vars have other values.
func (w world) at(vars []string, tuple []int) world {
	old := w.values
	w.values = map[string]int{}
	for v, x := range old {
		w.values[v] = x
	}
	for i, v := range vars {
		w.values[v] = tuple[i]
	}
	return w
}

// called returns the world in which name has another relation.
func (w world) called(name string, r map[string]bool) world {
	old := w.relations
	w.relations = map[string]map[string]bool{}
	for n, x := range old {
		w.relations[n] = x
	}
	w.relations[name] = r
	return w
}

func (w world) tuple(args []string) []int {
	var tuple []int
	for _, v := range args {
		tuple = append(tuple, w.values[v])
	}
	return tuple
}

func (w world) holds(f api.Formula) bool {
	switch f.Kind {
	case api.FRel:
		return w.relations[f.Name][key(w.tuple(f.Args))]
	case api.FEq:
		return w.values[f.Args[0]] == w.values[f.Args[1]]
	case api.FLess:
		return w.values[f.Args[0]] < w.values[f.Args[1]]
	case api.FNot:
		return !w.holds(f.Kids[0])
	case api.FAnd:
		return !slices.ContainsFunc(f.Kids, func(kid api.Formula) bool { return !w.holds(kid) })
	case api.FOr:
		return slices.ContainsFunc(f.Kids, w.holds)
	case api.FSome:
		return len(w.set(f.Vars, f.Kids[0])) > 0
	case api.FAll:
		return len(w.set(f.Vars, f.Kids[0])) == len(tuples(w.size, len(f.Vars)))
	case api.FLfp, api.FPfp:
		return w.fixed(f)[key(w.tuple(f.Args))]
	case api.FTc:
		return w.connected(f)
	}
	return w.guessed(f)
}

// set is the set of the tuples of values of vars for which f holds.
func (w world) set(vars []string, f api.Formula) map[string]bool {
	l := map[string]bool{}
	for _, tuple := range tuples(w.size, len(vars)) {
		if w.at(vars, tuple).holds(f) {
			l[key(tuple)] = true
		}
	}
	return l
}

func equal(a, b map[string]bool) bool {
	for x := range a {
		if !b[x] {
			return false
		}
	}
	return len(a) == len(b)
}

// fixed is the stage that is equal to the next one, or nothing if there is none.
func (w world) fixed(f api.Formula) map[string]bool {
	stages := []map[string]bool{{}}
	for {
		last := stages[len(stages)-1]
		next := w.called(f.Name, last).set(f.Vars, f.Kids[0])
		if equal(next, last) {
			return last
		}
		if slices.ContainsFunc(stages, func(s map[string]bool) bool { return equal(s, next) }) {
			return nil
		}
		stages = append(stages, next)
	}
}

func (w world) connected(f api.Formula) bool {
	half := len(f.Vars) / 2
	leads := func(x, y []int) bool { return w.at(f.Vars, slices.Concat(x, y)).holds(f.Kids[0]) }
	reached := [][]int{w.tuple(f.Args[:half])}
	for i := 0; i < len(reached); i++ {
		for _, y := range tuples(w.size, half) {
			known := slices.ContainsFunc(reached, func(x []int) bool { return slices.Equal(x, y) })
			if !known && leads(reached[i], y) {
				reached = append(reached, y)
			}
		}
	}
	goal := w.tuple(f.Args[half:])
	return slices.ContainsFunc(reached, func(x []int) bool { return slices.Equal(x, goal) })
}

func (w world) guessed(f api.Formula) bool {
	for _, l := range subsets(tuples(w.size, f.Arity)) {
		r := map[string]bool{}
		for _, tuple := range l {
			r[key(tuple)] = true
		}
		if w.called(f.Name, r).holds(f.Kids[0]) {
			return true
		}
	}
	return false
}

// subsets lists all selections of tuples, each in the order of the tuples.
func subsets(l [][]int) [][][]int {
	sets := [][][]int{nil}
	for _, tuple := range l {
		for _, set := range sets {
			sets = append(sets, append(slices.Clone(set), tuple))
		}
	}
	return sets
}

// answer is what Query should return.
func answer(f api.Formula, s api.Structure, vars []string) [][]int {
	var l [][]int
	for _, tuple := range tuples(s.Size, len(vars)) {
		if worldOf(s).at(vars, tuple).holds(f) {
			l = append(l, tuple)
		}
	}
	return l
}

// cost is the cost by its formulas, with numbers of any size.
func cost(f api.Formula, n int) *big.Int {
	number := func(x int) *big.Int { return big.NewInt(int64(x)) }
	power := func(x, y *big.Int) *big.Int { return new(big.Int).Exp(x, y, nil) }
	product := func(l ...*big.Int) *big.Int {
		p := number(1)
		for _, x := range l {
			p.Mul(p, x)
		}
		return p
	}
	c := number(0)
	for _, kid := range f.Kids {
		c.Add(c, cost(kid, n))
	}
	N := power(number(n), number(len(f.Vars)))
	most := number(api.MaxCost)
	switch f.Kind {
	case api.FSome, api.FAll, api.FTc:
		c = product(N, c)
	case api.FLfp:
		c = product(N, N, c)
	case api.FPfp:
		c = product(number(64), N, c)
	case api.FSecond:
		choices := most
		if cells := power(number(n), number(f.Arity)); cells.Cmp(number(40)) <= 0 {
			choices = power(number(2), cells)
		}
		c = product(choices, c)
	}
	c.Add(c, number(1))
	if c.Cmp(most) > 0 {
		return most
	}
	return c
}
