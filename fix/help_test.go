package fix_test

import (
	"slices"
	"strconv"
	"strings"
	"testing"

	"paraphrast/api"
	"paraphrast/fix"
	"paraphrast/formula"
	"paraphrast/mean"
	"paraphrast/shape"
)

// parse returns the formula of a text that must be one.
func parse(t *testing.T, text string) api.Formula {
	t.Helper()
	f, at, e := formula.Parse(text)
	if e != api.OK {
		t.Fatalf("Parse(%q) is error %d at %d", text, e, at)
	}
	return f
}

// structure returns the structure of a text that must be one.
func structure(t *testing.T, text string) api.Structure {
	t.Helper()
	s, e := shape.Parse(text)
	if e != api.OK {
		t.Fatalf("Parse(%q) is error %d", text, e)
	}
	return s
}

// def returns the definition that a text like "R x y: E(x y)" stands for.
func def(t *testing.T, text string) api.Def {
	t.Helper()
	head, body, _ := strings.Cut(text, ":")
	words := names(head)
	return api.Def{Name: words[0], Vars: words[1:], Body: parse(t, body)}
}

func system(t *testing.T, texts ...string) []api.Def {
	t.Helper()
	var defs []api.Def
	for _, text := range texts {
		defs = append(defs, def(t, text))
	}
	return defs
}

func names(words string) []string {
	return strings.Fields(words)
}

// numbered lists n variables that begin with a letter.
func numbered(letter string, n int) []string {
	var l []string
	for i := range n {
		l = append(l, letter+strconv.Itoa(i))
	}
	return l
}

// write returns the text of f, as far as that is short enough to be read.
func write(f api.Formula) string {
	text, e := formula.Text(f)
	if e != api.OK {
		return "a formula of error " + strconv.Itoa(int(e))
	}
	if len(text) > 2000 {
		return text[:2000] + ".."
	}
	return text
}

func writeDefs(defs []api.Def) string {
	var l []string
	for _, d := range defs {
		l = append(l, d.Name+" "+strings.Join(d.Vars, " ")+": "+write(d.Body))
	}
	return strings.Join(l, "; ")
}

// writeTuples returns tuples as they are written in structures.
func writeTuples(l [][]int) string {
	var words []string
	for _, tuple := range l {
		var numbers []string
		for _, x := range tuple {
			numbers = append(numbers, strconv.Itoa(x))
		}
		words = append(words, strings.Join(numbers, ","))
	}
	return strings.Join(words, " ")
}

// writeRels returns relations as they are written in structures.
func writeRels(l []api.Rel) string {
	var words []string
	for _, r := range l {
		words = append(words, strings.TrimSpace(r.Name+"/"+strconv.Itoa(r.Arity)+" "+writeTuples(r.Tuples)))
	}
	return strings.Join(words, "; ")
}

func rel(name, args string) api.Formula {
	return api.Formula{Kind: api.FRel, Name: name, Args: names(args)}
}

func not(f api.Formula) api.Formula {
	return api.Formula{Kind: api.FNot, Kids: []api.Formula{f}}
}

func and(kids ...api.Formula) api.Formula {
	return api.Formula{Kind: api.FAnd, Kids: kids}
}

func or(kids ...api.Formula) api.Formula {
	return api.Formula{Kind: api.FOr, Kids: kids}
}

func some(vars string, f api.Formula) api.Formula {
	return api.Formula{Kind: api.FSome, Vars: names(vars), Kids: []api.Formula{f}}
}

func lfp(name, vars string, f api.Formula, args string) api.Formula {
	return api.Formula{Kind: api.FLfp, Name: name, Vars: names(vars), Args: names(args), Kids: []api.Formula{f}}
}

// repeat returns n copies of f.
func repeat(n int, f api.Formula) []api.Formula {
	var l []api.Formula
	for range n {
		l = append(l, f)
	}
	return l
}

// deep returns f within this number of formulas that do not change its meaning.
func deep(levels int, f api.Formula) api.Formula {
	for range levels {
		f = and(f)
	}
	return f
}

// visit calls see for f and each formula in it.
func visit(f api.Formula, see func(f api.Formula)) {
	see(f)
	for _, kid := range f.Kids {
		visit(kid, see)
	}
}

// fixed counts the FLfp in some formulas.
func fixed(fs ...api.Formula) int {
	count := 0
	for _, f := range fs {
		visit(f, func(f api.Formula) {
			if f.Kind == api.FLfp {
				count++
			}
		})
	}
	return count
}

// tuples lists the tuples of k elements out of n, rising.
func tuples(n, k int) [][]int {
	l := [][]int{{}}
	for range k {
		var longer [][]int
		for _, tuple := range l {
			for x := range n {
				longer = append(longer, append(slices.Clone(tuple), x))
			}
		}
		l = longer
	}
	return l
}

func equalTuples(a, b [][]int) bool {
	return slices.EqualFunc(a, b, slices.Equal[[]int])
}

func equalRels(a, b []api.Rel) bool {
	return slices.EqualFunc(a, b, func(a, b api.Rel) bool {
		return a.Name == b.Name && a.Arity == b.Arity && equalTuples(a.Tuples, b.Tuples)
	})
}

func equalDefs(a, b []api.Def) bool {
	return slices.EqualFunc(a, b, func(a, b api.Def) bool {
		return a.Name == b.Name && slices.Equal(a.Vars, b.Vars) && formula.Same(a.Body, b.Body)
	})
}

// path returns the structure of a path through all elements.
func path(size int) api.Structure {
	r := api.Rel{Name: "E", Arity: 2}
	for i := range size - 1 {
		r.Tuples = append(r.Tuples, []int{i, i + 1})
	}
	return api.Structure{Size: size, Rels: []api.Rel{r}}
}

// solve returns the least fixed point of a system that must have one.
func solve(t *testing.T, defs []api.Def, s api.Structure) []api.Rel {
	t.Helper()
	l, e := fix.Solve(defs, s)
	if e != api.OK {
		t.Fatalf("Solve(%s, %v) is error %d", writeDefs(defs), s, e)
	}
	return l
}

// query returns the values for which a formula holds, or false if it is too large for Query.
func query(t *testing.T, f api.Formula, s api.Structure, vars []string) ([][]int, bool) {
	t.Helper()
	l, e := mean.Query(f, s, vars)
	if e != api.OK && e != api.ErrSize {
		t.Fatalf("Query(%s, %v, %q) is error %d", write(f), s, vars, e)
	}
	return l, e == api.OK
}

// wantErrors fails unless Solve and Steps, and Stages and Enters if there is one definition, return this error and nothing else.
func wantErrors(t *testing.T, defs []api.Def, s api.Structure, want api.Errno) {
	t.Helper()
	if l, e := fix.Solve(defs, s); e != want || len(l) > 0 {
		t.Errorf("Solve(%s) is %s, error %d instead of %d", writeDefs(defs), writeRels(l), e, want)
	}
	if n, e := fix.Steps(defs, s); e != want || n != 0 {
		t.Errorf("Steps(%s) is %d, error %d instead of %d", writeDefs(defs), n, e, want)
	}
	if len(defs) != 1 {
		return
	}
	if l, e := fix.Stages(defs[0], s); e != want || len(l) > 0 {
		t.Errorf("Stages(%s) has %d stages, error %d instead of %d", writeDefs(defs), len(l), e, want)
	}
	for _, tuple := range [][]int{nil, make([]int, len(defs[0].Vars)), {-1}} {
		if n, e := fix.Enters(defs[0], s, tuple); e != want || n != 0 {
			t.Errorf("Enters(%s, %v) is %d, error %d instead of %d", writeDefs(defs), tuple, n, e, want)
		}
	}
}

// wantOneError fails unless One returns this error and nothing else.
func wantOneError(t *testing.T, defs []api.Def, i int, want api.Errno) {
	t.Helper()
	if f, e := fix.One(defs, i); e != want || !formula.Same(f, api.Formula{}) {
		t.Errorf("One(%s, %d) is %s, error %d instead of %d", writeDefs(defs), i, write(f), e, want)
	}
}

// wantFlatError fails unless Flat returns this error and nothing else.
func wantFlatError(t *testing.T, f api.Formula, want api.Errno) {
	t.Helper()
	if l, g, e := fix.Flat(f); e != want || len(l) > 0 || !formula.Same(g, api.Formula{}) {
		t.Errorf("Flat(%s) is %s with %s, error %d instead of %d", write(f), write(g), writeDefs(l), e, want)
	}
}
