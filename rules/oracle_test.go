package rules_test

import (
	"regexp"
	"slices"
	"strings"

	"paraphrast/api"
	"paraphrast/formula"
)

// This file says once more what the chapter says of programs, as literally as possible.

// isVariables reports whether all of l are names.
func isVariables(l []string) bool {
	for _, v := range l {
		if !formula.Name(v) {
			return false
		}
	}
	return true
}

// occurring lists the variables of r as they occur first.
func occurring(r api.Rule) []string {
	all := slices.Clone(r.Head.Args)
	for _, c := range r.Body {
		all = append(all, c.Args...)
	}
	var l []string
	for _, v := range all {
		if !slices.Contains(l, v) {
			l = append(l, v)
		}
	}
	return l
}

// uses reports whether a name uses another one, directly or indirectly; with neg, whether it uses it directly and negatively.
func uses(l []api.Rule, name, other string, neg bool) bool {
	reached := []string{name}
	for i := 0; i < len(reached); i++ {
		for _, r := range l {
			if r.Head.Name != reached[i] {
				continue
			}
			for _, c := range r.Body {
				if c.Kind != api.FRel || neg && !c.Neg {
					continue
				}
				if c.Name == other {
					return true
				}
				if !neg && !slices.Contains(reached, c.Name) {
					reached = append(reached, c.Name)
				}
			}
		}
	}
	return false
}

// stratified reports whether no name that a name uses negatively uses that name.
func stratified(l []api.Rule) bool {
	for _, a := range defined(l) {
		for _, b := range defined(l) {
			if uses(l, a, b, true) && uses(l, b, a, false) {
				return false
			}
		}
	}
	return true
}

// isProgram reports whether l is valid.
func isProgram(l []api.Rule) bool {
	if len(l) > 60 {
		return false
	}
	for _, r := range l {
		atoms := []api.Atom{r.Head}
		for _, c := range r.Body {
			switch c.Kind {
			case api.FRel:
				atoms = append(atoms, c.Atom)
			case api.FEq, api.FLess:
				if c.Name != "" || len(c.Args) != 2 || !isVariables(c.Args) {
					return false
				}
			default:
				return false
			}
		}
		for _, a := range atoms {
			if !formula.Name(a.Name) || len(a.Args) > api.MaxArity || !isVariables(a.Args) || arity(l, a.Name) != len(a.Args) {
				return false
			}
		}
		if len(r.Body) > 20 || len(occurring(r)) > 12 {
			return false
		}
	}
	return stratified(l)
}

// ranks returns the levels of the defined names: the most negations on any way along the uses, since that is the least that the definition allows.
func ranks(l []api.Rule) map[string]int {
	level := map[string]int{}
	for range 70 {
		next := map[string]int{}
		for _, r := range l {
			for _, c := range r.Body {
				if !slices.Contains(defined(l), c.Name) {
					continue
				}
				n := level[c.Name]
				if c.Neg {
					n++
				}
				next[r.Head.Name] = max(next[r.Head.Name], n)
			}
		}
		level = next
	}
	return level
}

// world is a set of facts.
type world map[string]bool

func key(name string, tuple []int) string {
	var b strings.Builder
	b.WriteString(name)
	for _, x := range tuple {
		b.WriteByte(' ')
		b.WriteByte(byte('0' + x))
	}
	return b.String()
}

// worldOf returns the facts of a structure.
func worldOf(s api.Structure) world {
	w := world{}
	for _, r := range s.Rels {
		for _, tuple := range r.Tuples {
			w[key(r.Name, tuple)] = true
		}
	}
	return w
}

// at returns the values of args, where vars have values.
func at(args, vars []string, values []int) []int {
	l := []int{}
	for _, v := range args {
		l = append(l, values[slices.Index(vars, v)])
	}
	return l
}

// holds reports whether a condition holds.
func (w world) holds(c api.Cond, vars []string, values []int) bool {
	tuple := at(c.Args, vars, values)
	switch c.Kind {
	case api.FEq:
		return (tuple[0] == tuple[1]) != c.Neg
	case api.FLess:
		return (tuple[0] < tuple[1]) != c.Neg
	}
	return w[key(c.Name, tuple)] != c.Neg
}

// applied calls see for the facts that r adds, with the values.
func (w world) applied(r api.Rule, n int, see func(fact string, values []int)) {
	vars := occurring(r)
	for _, values := range tuples(n, len(vars)) {
		if !slices.ContainsFunc(r.Body, func(c api.Cond) bool { return !w.holds(c, vars, values) }) {
			see(key(r.Head.Name, at(r.Head.Args, vars, values)), values)
		}
	}
}

// meaning returns the facts of s and of the defined relations.
func meaning(l []api.Rule, s api.Structure) world {
	w := worldOf(s)
	level := ranks(l)
	for i := range len(l) {
		for count := -1; count < len(w); {
			count = len(w)
			for _, r := range l {
				if level[r.Head.Name] == i {
					w.applied(r, s.Size, func(fact string, _ []int) { w[fact] = true })
				}
			}
		}
	}
	return w
}

// smallest returns the size of the smallest proof of each fact of the defined relations, all facts of which w has; sizes above 1 << 40 are about that.
func (w world) smallest(l []api.Rule, n int) map[string]int {
	names := defined(l)
	sizes := map[string]int{}
	for changed := true; changed; {
		changed = false
		for _, r := range l {
			vars := occurring(r)
			w.applied(r, n, func(fact string, values []int) {
				sum := 1
				for _, c := range r.Body {
					if c.Kind == api.FRel && !c.Neg && slices.Contains(names, c.Name) {
						part := sizes[key(c.Name, at(c.Args, vars, values))]
						if part == 0 {
							return
						}
						sum = min(sum+part, 1<<40)
					}
				}
				if old := sizes[fact]; old == 0 || sum < old {
					sizes[fact] = sum
					changed = true
				}
			})
		}
	}
	return sizes
}

// proves reports whether p is a proof of a tuple, where w has the facts of a program.
func (w world) proves(l []api.Rule, n int, name string, tuple []int, p api.Proof) bool {
	if p.Rule < 0 || p.Rule >= len(l) || l[p.Rule].Head.Name != name {
		return false
	}
	r := l[p.Rule]
	vars := occurring(r)
	if len(p.Values) != len(vars) || slices.ContainsFunc(p.Values, func(x int) bool { return x < 0 || x >= n }) {
		return false
	}
	if !slices.Equal(at(r.Head.Args, vars, p.Values), tuple) {
		return false
	}
	parts := p.Parts
	for _, c := range r.Body {
		if !w.holds(c, vars, p.Values) {
			return false
		}
		if c.Kind != api.FRel || c.Neg || !slices.Contains(defined(l), c.Name) {
			continue
		}
		if len(parts) == 0 || !w.proves(l, n, c.Name, at(c.Args, vars, p.Values), parts[0]) {
			return false
		}
		parts = parts[1:]
	}
	return len(parts) == 0
}

var (
	wordRuns = regexp.MustCompile("[A-Za-z0-9]+")
	grammar  = regexp.MustCompile(grammarText())
)

// grammarText returns the grammar of texts in which n stands for each name and ! for the word not.
func grammarText() string {
	atom := `n_\(_(n_)*\)`
	cond := `(!_)?(` + atom + `|n_[=<]_n)`
	rule := atom + `_(:-_` + cond + `_(,_` + cond + `_)*)?\._`
	return strings.ReplaceAll(`^_(`+rule+`)*$`, "_", `[ \n]*`)
}

// grammatical reports whether a text belongs to the grammar.
func grammatical(text string) bool {
	kinds := wordRuns.ReplaceAllStringFunc(text, func(word string) string {
		switch {
		case word == "not":
			return "!"
		case formula.Name(word):
			return "n"
		}
		return "#"
	})
	return !strings.Contains(text, "!") && grammar.MatchString(kinds)
}
