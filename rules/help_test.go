package rules_test

import (
	"slices"
	"strconv"
	"strings"
	"testing"

	"paraphrast/api"
	"paraphrast/formula"
	"paraphrast/mean"
	"paraphrast/rules"
	"paraphrast/shape"
)

// program returns the program of a text that must be one.
func program(t *testing.T, text string) []api.Rule {
	t.Helper()
	l, e := rules.Parse(text)
	if e != api.OK {
		t.Fatalf("Parse(%q) is error %d", text, e)
	}
	return l
}

// parse returns the formula of a text that must be one.
func parse(t *testing.T, text string) api.Formula {
	t.Helper()
	f, at, e := formula.Parse(text)
	if e != api.OK {
		t.Fatalf("Parse(%q) is error %d at %d", text, e, at)
	}
	return f
}

// structure returns the structure of a text that must be one.
func structure(t *testing.T, text string) api.Structure {
	t.Helper()
	s, e := shape.Parse(text)
	if e != api.OK {
		t.Fatalf("Parse(%q) is error %d", text, e)
	}
	return s
}

func words(text string) []string {
	return strings.Fields(text)
}

// numbered lists n names that begin with a letter.
func numbered(letter string, n int) []string {
	var l []string
	for i := range n {
		l = append(l, letter+strconv.Itoa(i))
	}
	return l
}

// write returns the text of a program, as far as that is short enough to be read.
func write(l []api.Rule) string {
	text, e := rules.Text(l)
	if e != api.OK {
		return "a program of error " + strconv.Itoa(int(e))
	}
	return text[:min(len(text), 2000)]
}

func writeFormula(f api.Formula) string {
	text, e := formula.Text(f)
	if e != api.OK {
		return "a formula of error " + strconv.Itoa(int(e))
	}
	return text[:min(len(text), 2000)]
}

func writeStructure(s api.Structure) string {
	text, e := shape.Text(s)
	if e != api.OK {
		return "a structure of error " + strconv.Itoa(int(e))
	}
	return text
}

func head(name, args string) api.Atom {
	return api.Atom{Name: name, Args: words(args)}
}

func rel(name, args string) api.Cond {
	return api.Cond{Atom: head(name, args)}
}

func eq(x, y string) api.Cond {
	return api.Cond{Kind: api.FEq, Atom: head("", x+" "+y)}
}

func less(x, y string) api.Cond {
	return api.Cond{Kind: api.FLess, Atom: head("", x+" "+y)}
}

func not(c api.Cond) api.Cond {
	c.Neg = true
	return c
}

func rule(a api.Atom, conds ...api.Cond) api.Rule {
	return api.Rule{Head: a, Body: conds}
}

// tuples lists the tuples of k elements out of n, rising.
func tuples(n, k int) [][]int {
	l := [][]int{{}}
	for range k {
		var longer [][]int
		for _, tuple := range l {
			for x := range n {
				longer = append(longer, append(slices.Clone(tuple), x))
			}
		}
		l = longer
	}
	return l
}

func equalTuples(a, b [][]int) bool {
	return slices.EqualFunc(a, b, slices.Equal[[]int])
}

// defined lists the names that a program defines, rising.
func defined(l []api.Rule) []string {
	var names []string
	for _, r := range l {
		names = append(names, r.Head.Name)
	}
	slices.Sort(names)
	return slices.Compact(names)
}

// arity returns the arity of a name of a program.
func arity(l []api.Rule, name string) int {
	for _, r := range l {
		if r.Head.Name == name {
			return len(r.Head.Args)
		}
		for _, c := range r.Body {
			if c.Kind == api.FRel && c.Name == name {
				return len(c.Args)
			}
		}
	}
	return -1
}

// relation returns the tuples of a relation of s.
func relation(t *testing.T, s api.Structure, name string) [][]int {
	t.Helper()
	for _, r := range s.Rels {
		if r.Name == name {
			return r.Tuples
		}
	}
	t.Fatalf("%s has no relation %s", writeStructure(s), name)
	return nil
}

// run returns the structure that a program must make of s.
func run(t *testing.T, l []api.Rule, s api.Structure) api.Structure {
	t.Helper()
	r, e := rules.Run(l, s)
	if e != api.OK {
		t.Fatalf("Run(%s, %s) is error %d", write(l), writeStructure(s), e)
	}
	return r
}

// query returns the values for which a formula holds, or false if it is too large for Query.
func query(t *testing.T, f api.Formula, s api.Structure, vars []string) ([][]int, bool) {
	t.Helper()
	l, e := mean.Query(f, s, vars)
	if e != api.OK && e != api.ErrSize {
		t.Fatalf("Query(%s, %s, %q) is error %d", writeFormula(f), writeStructure(s), vars, e)
	}
	return l, e == api.OK
}

// size counts the proofs in a proof.
func size(p api.Proof) int {
	n := 1
	for _, part := range p.Parts {
		n += size(part)
	}
	return n
}

// path returns the structure of a path through all elements.
func path(size int) api.Structure {
	r := api.Rel{Name: "E", Arity: 2}
	for i := range size - 1 {
		r.Tuples = append(r.Tuples, []int{i, i + 1})
	}
	return api.Structure{Size: size, Rels: []api.Rel{r}}
}
