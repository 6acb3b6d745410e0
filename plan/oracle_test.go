package plan_test

import (
	"regexp"
	"slices"

	"paraphrast/api"
)

// This file says once more what the chapter says, in other ways than the package: each definition on its own, by lists of tuples.

var aName = regexp.MustCompile(`\A[A-Za-z][A-Za-z0-9]{0,11}\z`)

func name(s string) bool {
	return aName.MatchString(s) && !slices.Contains(names("and or not some all lfp pfp tc exists true false"), s)
}

// width returns the width of a plan that need not be valid, or -1 if it has none.
func width(p api.Plan) int {
	w := -1
	switch p.Kind {
	case api.PRel, api.PAll:
		w = p.Width
	case api.PSame, api.PLess, api.PUnion, api.PMinus:
		if len(p.Kids) > 0 {
			w = width(p.Kids[0])
		}
	case api.PJoin:
		if len(p.Kids) > 1 {
			w = width(p.Kids[0]) + width(p.Kids[1])
		}
	case api.PProject:
		w = len(p.Cols)
	}
	return w
}

// unused reports whether the fields that the kind of p does not use are zero.
func unused(p api.Plan) bool {
	q := api.Plan{Kind: p.Kind, Kids: p.Kids}
	switch p.Kind {
	case api.PRel:
		q.Name, q.Width = p.Name, p.Width
	case api.PAll:
		q.Width = p.Width
	case api.PSame, api.PLess:
		q.I, q.J = p.I, p.J
	case api.PProject:
		q.Cols = p.Cols
	}
	return q.Name == p.Name && q.Width == p.Width && q.I == p.I && q.J == p.J && len(q.Cols) == len(p.Cols)
}

// fields reports whether one plan is as the items of validity say; its kids are.
func fields(p api.Plan) bool {
	kids := []int{0, 0, 1, 1, 2, 1, 2, 2}
	if p.Kind < 0 || p.Kind > 7 || len(p.Kids) != kids[p.Kind] || !unused(p) || width(p) < 0 || width(p) > 12 {
		return false
	}
	switch p.Kind {
	case api.PRel:
		return name(p.Name)
	case api.PSame, api.PLess:
		w := width(p.Kids[0])
		return p.I >= 0 && p.J >= 0 && p.I < w && p.J < w
	case api.PProject:
		return !slices.ContainsFunc(p.Cols, func(c int) bool { return c < 0 || c >= width(p.Kids[0]) })
	case api.PUnion, api.PMinus:
		return width(p.Kids[0]) == width(p.Kids[1])
	}
	return true
}

// valid is what Valid should be, for plans that are trees.
func valid(p api.Plan) bool {
	l := parts(p)
	if len(l) > 4000 || depth(p) > 1000 {
		return false
	}
	widths := map[string]int{}
	for _, q := range l {
		if !fields(q) {
			return false
		}
		if q.Kind == api.PRel {
			if w, seen := widths[q.Name]; seen && w != q.Width {
				return false
			}
			widths[q.Name] = q.Width
		}
	}
	return true
}

// value is what Run should return for a plan that has a value in s.
func value(p api.Plan, s api.Structure) [][]int {
	l := components(p, s)
	slices.SortFunc(l, slices.Compare[[]int])
	return slices.CompactFunc(l, slices.Equal[[]int])
}

// components lists the tuples of the value of p in any order.
func components(p api.Plan, s api.Structure) [][]int {
	var l [][]int
	switch p.Kind {
	case api.PRel:
		for _, r := range s.Rels {
			if r.Name == p.Name {
				l = slices.Clone(r.Tuples)
			}
		}
		return l
	case api.PAll:
		return tuples(s.Size, p.Width)
	}
	a := value(p.Kids[0], s)
	var b [][]int
	if len(p.Kids) > 1 {
		b = value(p.Kids[1], s)
	}
	in := func(l [][]int, t []int) bool {
		return slices.ContainsFunc(l, func(u []int) bool { return slices.Equal(t, u) })
	}
	for _, t := range a {
		switch {
		case p.Kind == api.PSame && t[p.I] == t[p.J], p.Kind == api.PLess && t[p.I] < t[p.J], p.Kind == api.PUnion, p.Kind == api.PMinus && !in(b, t):
			l = append(l, t)
		case p.Kind == api.PJoin:
			for _, u := range b {
				l = append(l, slices.Concat(t, u))
			}
		case p.Kind == api.PProject:
			u := []int{}
			for _, c := range p.Cols {
				u = append(u, t[c])
			}
			l = append(l, u)
		}
	}
	if p.Kind == api.PUnion {
		l = append(l, b...)
	}
	return l
}
