package fix_test

import (
	"slices"
	"testing"

	"paraphrast/api"
	"paraphrast/mean"
)

// This file says once more what stages and least fixed points are, tuple by tuple.

// with returns s with relations in place of those of the same names.
func with(s api.Structure, rels []api.Rel) api.Structure {
	l := slices.Clone(rels)
	for _, r := range s.Rels {
		if !slices.ContainsFunc(rels, func(o api.Rel) bool { return o.Name == r.Name }) {
			l = append(l, r)
		}
	}
	return api.Structure{Size: s.Size, Rels: l}
}

// image returns what a system maps relations of its names to.
func image(t *testing.T, defs []api.Def, s api.Structure, rels []api.Rel) []api.Rel {
	t.Helper()
	s = with(s, rels)
	var l []api.Rel
	for _, d := range defs {
		r := api.Rel{Name: d.Name, Arity: len(d.Vars)}
		for _, tuple := range tuples(s.Size, len(d.Vars)) {
			is, e := mean.Holds(d.Body, s, d.Vars, tuple)
			if e != api.OK {
				t.Fatalf("Holds(%s, %v, %q, %v) is error %d", write(d.Body), s, d.Vars, tuple, e)
			}
			if is {
				r.Tuples = append(r.Tuples, tuple)
			}
		}
		l = append(l, r)
	}
	return l
}

func nothing(defs []api.Def) []api.Rel {
	var l []api.Rel
	for _, d := range defs {
		l = append(l, api.Rel{Name: d.Name, Arity: len(d.Vars)})
	}
	return l
}

// stages lists the stages of a system, up to the first one that is equal to the next.
func stages(t *testing.T, defs []api.Def, s api.Structure) [][]api.Rel {
	t.Helper()
	l := [][]api.Rel{nothing(defs)}
	for {
		last := l[len(l)-1]
		next := image(t, defs, s, last)
		if equalRels(next, last) {
			return l
		}
		l = append(l, next)
	}
}

// contains reports whether each tuple of some relations is also one of others.
func contains(larger, smaller []api.Rel) bool {
	for i, r := range smaller {
		for _, tuple := range r.Tuples {
			if !slices.ContainsFunc(larger[i].Tuples, func(o []int) bool { return slices.Equal(o, tuple) }) {
				return false
			}
		}
	}
	return true
}

// selections calls see for all relations of the names of a system.
func selections(defs []api.Def, n int, see func(rels []api.Rel)) {
	var places []int
	var cells [][]int
	for i, d := range defs {
		for _, tuple := range tuples(n, len(d.Vars)) {
			places = append(places, i)
			cells = append(cells, tuple)
		}
	}
	for choice := range 1 << len(cells) {
		rels := nothing(defs)
		for c, tuple := range cells {
			if choice>>c&1 == 1 {
				rels[places[c]].Tuples = append(rels[places[c]].Tuples, tuple)
			}
		}
		see(rels)
	}
}
