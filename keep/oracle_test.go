package keep_test

import (
	"slices"

	"paraphrast/api"
	"paraphrast/rules"
	"paraphrast/shape"
)

// slow does what the chapter says of a keeper, as literally as possible: it runs the program whenever it is asked.
type slow struct {
	rules []api.Rule
	base  api.Structure   // without the defined relations
	past  []api.Structure // what base was before each Put
}

func (k *slow) now() api.Structure {
	s, _ := rules.Run(k.rules, k.base)
	return s
}

func (k *slow) put(name string, t []int, is bool) ([]api.Fact, []api.Fact, api.Errno) {
	changed, e := shape.Put(k.base, name, t, is)
	if e != api.OK {
		return nil, nil, e
	}
	before := facts(k.now())
	k.past = append(k.past, k.base)
	k.base = changed
	after := facts(k.now())
	return less(after, before), less(before, after), api.OK
}

func (k *slow) undo() api.Errno {
	n := len(k.past)
	if n == 0 {
		return api.ErrNone
	}
	k.base, k.past = k.past[n-1], k.past[:n-1]
	return api.OK
}

func (k *slow) clone() *slow {
	return &slow{k.rules, k.base, slices.Clone(k.past)}
}

func (k *slow) count(name string, t []int) (int, api.Errno) {
	now := k.now()
	n, known := 0, false
	for _, r := range k.rules {
		if r.Head.Name != name || len(r.Head.Args) != len(t) {
			continue
		}
		known = true
		vars := occurring(r)
		for _, values := range tuples(now.Size, len(vars)) {
			if slices.Equal(at(r.Head.Args, vars, values), t) && applied(r, now, vars, values) {
				n++
			}
		}
	}
	if !known {
		return 0, api.ErrName
	}
	return n, api.OK
}

// occurring lists the variables of r.
func occurring(r api.Rule) []string {
	l := slices.Clone(r.Head.Args)
	for _, c := range r.Body {
		l = append(l, c.Args...)
	}
	slices.Sort(l)
	return slices.Compact(l)
}

// at returns the values of args, where vars have values.
func at(args, vars []string, values []int) []int {
	l := []int{}
	for _, v := range args {
		l = append(l, values[slices.Index(vars, v)])
	}
	return l
}

// applied reports whether all conditions of r hold in now.
func applied(r api.Rule, now api.Structure, vars []string, values []int) bool {
	for _, c := range r.Body {
		x := at(c.Args, vars, values)
		var holds bool
		switch c.Kind {
		case api.FEq:
			holds = x[0] == x[1]
		case api.FLess:
			holds = x[0] < x[1]
		default:
			holds, _ = shape.Has(now, c.Name, x)
		}
		if holds == c.Neg {
			return false
		}
	}
	return true
}
