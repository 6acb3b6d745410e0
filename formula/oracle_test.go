package formula_test

import (
	"regexp"
	"slices"
	"strconv"
	"strings"

	"paraphrast/api"
)

// This file says once more what the chapter says, in other ways than the package: from the inside out, each definition on its own.

var (
	aName   = regexp.MustCompile(`\A[A-Za-z][A-Za-z0-9]{0,11}\z`)
	aNumber = regexp.MustCompile(`\A(0|[1-9][0-9]?)\z`)
	tokens  = regexp.MustCompile(`[A-Za-z0-9]+|[^ \n]`)
)

// name is what a name is, by a pattern.
func name(s string) bool {
	return aName.MatchString(s) && !slices.Contains(words(), s)
}

func words() []string {
	return strings.Fields("and or not some all lfp pfp tc exists true false")
}

// occurrence is an FRel with a name that is not bound, and what is around it.
type occurrence struct {
	arity, nots, pfps int
}

func binder(kind int) bool {
	return kind == api.FLfp || kind == api.FPfp || kind == api.FSecond
}

func occurrences(f api.Formula, name string) []occurrence {
	if f.Kind == api.FRel && f.Name == name {
		return []occurrence{{arity: len(f.Args)}}
	}
	if binder(f.Kind) && f.Name == name {
		return nil
	}
	var l []occurrence
	for _, kid := range f.Kids {
		for _, o := range occurrences(kid, name) {
			if f.Kind == api.FNot {
				o.nots++
			}
			if f.Kind == api.FPfp {
				o.pfps++
			}
			l = append(l, o)
		}
	}
	return l
}

func positive(f api.Formula, name string) bool {
	return !slices.ContainsFunc(occurrences(f, name), func(o occurrence) bool { return o.nots%2 == 1 || o.pfps > 0 })
}

func parts(f api.Formula) []api.Formula {
	l := []api.Formula{f}
	for _, kid := range f.Kids {
		l = append(l, parts(kid)...)
	}
	return l
}

func depth(f api.Formula) int {
	d := 0
	for _, kid := range f.Kids {
		d = max(d, depth(kid))
	}
	return d + 1
}

// fields is the first item of validity: the fields of one formula.
func fields(f api.Formula) bool {
	different := map[string]bool{}
	for _, v := range f.Vars {
		different[v] = true
	}
	for _, s := range append(append([]string{}, f.Vars...), f.Args...) {
		if !name(s) {
			return false
		}
	}
	vars, args, kids := len(f.Vars), len(f.Args), len(f.Kids)
	names := name(f.Name)
	empty := f.Name == ""
	ok := false
	switch f.Kind {
	case api.FRel:
		ok = names && vars == 0 && args < 13 && kids == 0
	case api.FEq, api.FLess:
		ok = empty && vars == 0 && args == 2 && kids == 0
	case api.FNot:
		ok = empty && vars == 0 && args == 0 && kids == 1
	case api.FAnd, api.FOr:
		ok = empty && vars == 0 && args == 0
	case api.FSome, api.FAll:
		ok = empty && vars > 0 && vars < 13 && args == 0 && kids == 1
	case api.FLfp, api.FPfp:
		ok = names && vars > 0 && vars < 13 && args == vars && kids == 1
	case api.FTc:
		ok = empty && vars > 0 && vars < 25 && vars%2 == 0 && args == vars && kids == 1
	case api.FSecond:
		ok = names && vars == 0 && args == 0 && kids == 1 && f.Arity >= 0 && f.Arity < 13
	}
	return ok && len(different) == vars && (f.Kind == api.FSecond || f.Arity == 0)
}

// bindings is the second and third item of validity, for one formula that binds a name.
func bindings(f api.Formula) bool {
	if !binder(f.Kind) {
		return true
	}
	for _, o := range occurrences(f.Kids[0], f.Name) {
		if o.arity != f.Arity+len(f.Vars) {
			return false
		}
	}
	return f.Kind != api.FLfp || positive(f.Kids[0], f.Name)
}

// valid is what Valid should be, for formulas that are trees.
func valid(f api.Formula) bool {
	l := parts(f)
	if len(l) > 4000 || depth(f) > 60 {
		return false
	}
	names := map[string]bool{}
	for _, g := range l {
		if !fields(g) || !bindings(g) {
			return false
		}
		names[g.Name] = true
	}
	for s := range names {
		unbound := occurrences(f, s)
		for _, o := range unbound {
			if o.arity != unbound[0].arity {
				return false
			}
		}
	}
	return true
}

// free is the set of the free variables.
func free(f api.Formula) map[string]bool {
	set := map[string]bool{}
	for _, kid := range f.Kids {
		for v := range free(kid) {
			if !slices.Contains(f.Vars, v) {
				set[v] = true
			}
		}
	}
	for _, v := range f.Args {
		set[v] = true
	}
	return set
}

// symbols is the set of the names that occur unbound, with their arities.
func symbols(f api.Formula) map[string]int {
	set := map[string]int{}
	for _, kid := range f.Kids {
		for s, arity := range symbols(kid) {
			if !binder(f.Kind) || s != f.Name {
				set[s] = arity
			}
		}
	}
	if f.Kind == api.FRel {
		set[f.Name] = len(f.Args)
	}
	return set
}

// write is the textual form.
func write(f api.Formula) string {
	var kids []string
	for _, kid := range f.Kids {
		kids = append(kids, write(kid))
	}
	body := strings.Join(kids, ", ")
	vars, args := strings.Join(f.Vars, " "), strings.Join(f.Args, " ")
	switch f.Kind {
	case api.FRel:
		return f.Name + "(" + args + ")"
	case api.FEq:
		return strings.Join(f.Args, " = ")
	case api.FLess:
		return strings.Join(f.Args, " < ")
	case api.FNot:
		return "not(" + body + ")"
	case api.FSome:
		return "some(" + vars + ": " + body + ")"
	case api.FAll:
		return "all(" + vars + ": " + body + ")"
	case api.FLfp:
		return "lfp(" + f.Name + " " + vars + ": " + body + ")(" + args + ")"
	case api.FPfp:
		return "pfp(" + f.Name + " " + vars + ": " + body + ")(" + args + ")"
	case api.FTc:
		return "tc(" + vars + ": " + body + ")(" + args + ")"
	case api.FSecond:
		return "exists(" + f.Name + " " + strconv.Itoa(f.Arity) + ": " + body + ")"
	}
	if len(kids) == 0 {
		return map[int]string{api.FAnd: "true", api.FOr: "false"}[f.Kind]
	}
	return map[int]string{api.FAnd: "and", api.FOr: "or"}[f.Kind] + "(" + body + ")"
}

// grammar is the grammar of the textual forms, with lists of any length.
func grammar() map[string]string {
	return map[string]string{
		"text": "formula end",
		"formula": "name ( names ) | name = name | name < name | not ( formula ) | true | false | and ( kids ) | or ( kids ) | " +
			"some ( names : formula ) | all ( names : formula ) | lfp ( name names : formula ) ( names ) | pfp ( name names : formula ) ( names ) | " +
			"tc ( names : formula ) ( names ) | exists ( name number : formula )",
		"names": " | name names",
		"kids":  " | formula more",
		"more":  " | , formula more",
	}
}

// stack is what is still to come of a derivation: a symbol of the grammar, and what follows it.
type stack struct {
	top  string
	rest *stack
}

// machine accepts the texts of the grammar: it keeps all derivations that are still possible.
type machine struct{ stacks []*stack }

// productions are the rules of the grammar, as lists of symbols.
var productions = func() map[string][][]string {
	m := map[string][][]string{}
	for symbol, rules := range grammar() {
		for _, rule := range strings.Split(rules, "|") {
			m[symbol] = append(m[symbol], strings.Fields(rule))
		}
	}
	return m
}()

// reads reports whether a token can continue, and goes on behind it.
func (m *machine) reads(token string) bool {
	var next []*stack
	var expand func(s *stack)
	expand = func(s *stack) {
		if s == nil {
			return
		}
		rules, is := productions[s.top]
		if !is && s.top == token {
			next = append(next, s.rest)
		}
		for _, rule := range rules {
			more := s.rest
			for i := len(rule) - 1; i >= 0; i-- {
				more = &stack{rule[i], more}
			}
			expand(more)
		}
	}
	for _, s := range m.stacks {
		expand(s)
	}
	m.stacks = next
	return len(next) > 0
}

// symbol returns the symbol of the grammar for a token.
func symbol(token string) string {
	switch {
	case slices.Contains(words(), token) || len(token) == 1 && strings.Contains("(),:=<", token):
		return token
	case name(token):
		return "name"
	case aNumber.MatchString(token):
		return "number"
	}
	return "nothing"
}

// firstBad returns the index of the first token of a text that cannot continue, its length if it ends too early, and -1 if it belongs to the grammar.
func firstBad(text string) int {
	m := &machine{[]*stack{{top: "text"}}}
	for _, at := range tokens.FindAllStringIndex(text, -1) {
		if !m.reads(symbol(text[at[0]:at[1]])) {
			return at[0]
		}
	}
	if !m.reads("end") {
		return len(text)
	}
	return -1
}

// closing returns the index of the bracket that closes the one at i.
func closing(l []string, i int) int {
	open := 0
	for ; ; i++ {
		switch l[i] {
		case "(":
			open++
		case ")":
			open--
		}
		if open == 0 {
			return i
		}
	}
}

// decode returns the formula of a text of the grammar, by its tokens.
func decode(l []string) api.Formula {
	switch {
	case l[0] == "true":
		return and()
	case l[0] == "false":
		return or()
	case l[1] == "=":
		return eq(l[0], l[2])
	case l[1] == "<":
		return less(l[0], l[2])
	}
	end := closing(l, 1)
	inner, outer := l[2:end], l[end+1:]
	kind := slices.Index(strings.Fields("not and or some all lfp pfp tc exists"), l[0])
	if kind < 0 {
		return rel(l[0], strings.Join(inner, " "))
	}
	f := api.Formula{Kind: api.FNot + kind}
	if colon := slices.Index(inner, ":"); f.Kind >= api.FSome {
		f.Vars, inner = inner[:colon], inner[colon+1:]
	}
	if binder(f.Kind) {
		f.Name, f.Vars = f.Vars[0], f.Vars[1:]
	}
	if f.Kind == api.FSecond {
		f.Arity, _ = strconv.Atoi(f.Vars[0])
		f.Vars = nil
	}
	if len(outer) > 0 {
		f.Args = outer[1 : len(outer)-1]
	}
	f.Kids = decodeKids(inner)
	return f
}

func decodeKids(l []string) []api.Formula {
	var kids []api.Formula
	for len(l) > 0 {
		end := 0
		for end < len(l) && l[end] != "," {
			if l[end] == "(" {
				end = closing(l, end)
			}
			end++
		}
		kids = append(kids, decode(l[:end]))
		l = l[min(end+1, len(l)):]
	}
	return kids
}

// answer is what Parse should return.
func answer(text string) (api.Formula, int, api.Errno) {
	if len(text) > 40000 {
		return api.Formula{}, 0, api.ErrSize
	}
	if at := firstBad(text); at >= 0 {
		return api.Formula{}, at, api.ErrParse
	}
	f := decode(tokens.FindAllString(text, -1))
	if !valid(f) {
		return api.Formula{}, 0, api.ErrForm
	}
	return f, 0, api.OK
}
