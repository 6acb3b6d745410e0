package rules_test

import (
	"maps"
	"math"
	"slices"
	"strings"
	"testing"

	"paraphrast/api"
	"paraphrast/rules"
)

// check compares whether a program is valid with want, for all functions that ask for one.
func check(t *testing.T, what string, l []api.Rule, want bool) {
	t.Helper()
	if isProgram(l) != want {
		t.Fatalf("%s: the test itself is wrong", what)
	}
	if rules.Valid(l) != want {
		t.Errorf("%s: Valid is %v", what, !want)
	}
	if _, e := rules.Text(l); (e != api.ErrForm) != want {
		t.Errorf("%s: Text is error %d", what, e)
	}
	if _, _, e := rules.Levels(l); (e != api.ErrForm) != want {
		t.Errorf("%s: Levels is error %d", what, e)
	}
	if _, e := rules.Run(l, api.Structure{Size: 2}); (e != api.ErrForm) != want {
		t.Errorf("%s: Run is error %d", what, e)
	}
	if _, e := rules.Formula(l, "P"); (e != api.ErrForm) != want {
		t.Errorf("%s: Formula is error %d", what, e)
	}
}

func TestValid(t *testing.T) {
	long := strings.Repeat("a", 12)
	many := numbered("x", 13)
	p := head("P", "x y")
	for what, l := range map[string][]api.Rule{
		"no rules":                       nil,
		"a fact":                         {rule(p)},
		"no places":                      {rule(head("P", ""))},
		"the same variable twice":        {rule(head("P", "x x"))},
		"a variable like a relation":     {rule(head("P", "P"), rel("Q", "P"))},
		"a variable of conditions only":  {rule(p, rel("E", "u v"))},
		"an equation":                    {rule(p, eq("x", "y"), not(eq("x", "u")))},
		"a comparison":                   {rule(p, less("x", "x"), not(less("x", "y")))},
		"12 places":                      {rule(api.Atom{Name: "P", Args: many[:12]}, api.Cond{Atom: api.Atom{Name: "Q", Args: many[:12]}})},
		"12 places, one variable":        {rule(api.Atom{Name: "P", Args: slices.Repeat([]string{"x"}, 12)})},
		"12 variables":                   {rule(api.Atom{Name: "P", Args: many[:6]}, api.Cond{Atom: api.Atom{Name: "Q", Args: many[5:12]}})},
		"names of 12 bytes":              {rule(head(long, long), rel("Z9", "a1"))},
		"20 conditions":                  {rule(p, slices.Repeat([]api.Cond{rel("E", "x y")}, 20)...)},
		"60 rules":                       slices.Repeat([]api.Rule{rule(p)}, 60),
		"itself":                         {rule(p, rel("P", "y x"))},
		"each other":                     {rule(head("P", ""), rel("Q", "")), rule(head("Q", ""), rel("P", ""))},
		"the negation of a symbol":       {rule(p, not(rel("E", "x y")), rel("P", "y x"))},
		"the negation of a defined name": {rule(p, not(rel("Q", "x"))), rule(head("Q", "x"), rel("Q", "x"))},
		"with and without negation":      {rule(p, not(rel("Q", "x")), rel("Q", "y")), rule(head("Q", "x"))},
	} {
		check(t, what, l, true)
	}
}

func TestNotValid(t *testing.T) {
	many := numbered("x", 13)
	p := head("P", "x y")
	named := func(name string) api.Rule { return rule(head(name, "x")) }
	with := func(c api.Cond) []api.Rule { return []api.Rule{rule(p, rel("E", "x y"), c)} }
	for what, l := range map[string][]api.Rule{
		"61 rules":               slices.Repeat([]api.Rule{rule(p)}, 61),
		"21 conditions":          {rule(p, slices.Repeat([]api.Cond{rel("E", "x y")}, 21)...)},
		"13 places":              {rule(api.Atom{Name: "P", Args: slices.Repeat([]string{"x"}, 13)})},
		"13 places of a symbol":  with(api.Cond{Atom: api.Atom{Name: "Q", Args: slices.Repeat([]string{"x"}, 13)}}),
		"13 variables":           {rule(api.Atom{Name: "P", Args: many[:6]}, api.Cond{Atom: api.Atom{Name: "Q", Args: many[5:13]}})},
		"13 variables in all":    {rule(api.Atom{Name: "P", Args: many[:12]}, eq("x0", "x12"))},
		"an empty rule":          {{}},
		"no name":                {named("")},
		"a long name":            {named(strings.Repeat("a", 13))},
		"a digit first":          {named("1a")},
		"a reserved word":        {named("lfp")},
		"the word not":           {named("not")},
		"another character":      {named("a_")},
		"not a variable":         {rule(head("P", "x true"))},
		"an empty variable":      {rule(api.Atom{Name: "P", Args: []string{""}})},
		"no name of a symbol":    with(api.Cond{Atom: head("", "x")}),
		"a wrong symbol":         with(rel("not", "x")),
		"a wrong variable":       with(rel("Q", "x é")),
		"an unnamed condition":   with(api.Cond{}),
		"a named equation":       with(api.Cond{Kind: api.FEq, Atom: head("E", "x y")}),
		"a named comparison":     with(api.Cond{Kind: api.FLess, Atom: head("E", "x y")}),
		"an equation of one":     with(api.Cond{Kind: api.FEq, Atom: head("", "x")}),
		"an equation of three":   with(api.Cond{Kind: api.FEq, Atom: head("", "x y x")}),
		"a comparison of none":   with(api.Cond{Kind: api.FLess}),
		"a wrong equation":       with(eq("x", "or")),
		"a wrong comparison":     with(less("", "y")),
		"another kind":           with(api.Cond{Kind: api.FNot, Atom: head("Q", "x")}),
		"a negative kind":        with(api.Cond{Kind: -1, Atom: head("Q", "x")}),
		"two arities":            {rule(p), rule(head("P", "x"))},
		"two arities of a name":  {rule(p, rel("P", "x"))},
		"two arities of another": {rule(p, rel("Q", "x")), rule(head("Q", ""))},
		"two arities of symbols": {rule(p, rel("Q", "x")), rule(p, not(rel("Q", "x y")))},
		"not itself":             {rule(head("R", "x"), not(rel("R", "x")))},
		"not each other":         {rule(head("P", ""), not(rel("Q", ""))), rule(head("Q", ""), not(rel("P", "")))},
		"not one of each other":  {rule(head("P", ""), rel("Q", "")), rule(head("Q", ""), not(rel("P", "")))},
		"not far away": {rule(head("P", ""), rel("Q", ""), rel("E", "")), rule(head("Q", ""), rel("S", "")), rule(head("S", ""), rel("Q", "")),
			rule(head("S", ""), rel("T", "")), rule(head("T", ""), not(rel("P", "")))},
	} {
		check(t, what, l, false)
	}
}

// TestRandomValid compares Valid and Levels with the definitions for programs whose negations are placed at random.
func TestRandomValid(t *testing.T) {
	m := newMaker(4)
	count := map[bool]int{}
	for range 4000 {
		l := m.program(dress{6, 10, 3, 4, 1})
		for range m.Intn(6) {
			r := &l[m.Intn(len(l))]
			if len(r.Body) > 0 {
				c := &r.Body[m.Intn(len(r.Body))]
				c.Neg = !c.Neg
			}
		}
		want := isProgram(l)
		count[want]++
		if rules.Valid(l) != want {
			t.Errorf("Valid(%v) is %v", l, !want)
		}
		names, numbers, e := rules.Levels(l)
		if (e == api.OK) != want || !want && len(names)+len(numbers) > 0 {
			t.Errorf("Levels(%v) is %q %v, error %d", l, names, numbers, e)
		}
		if !want {
			continue
		}
		level := ranks(l)
		if !slices.Equal(names, defined(l)) || len(numbers) != len(names) {
			t.Fatalf("Levels(%s) is %q %v", write(l), names, numbers)
		}
		for i, name := range names {
			if numbers[i] != level[name] {
				t.Errorf("Levels(%s) is %q %v instead of %v", write(l), names, numbers, level)
			}
		}
	}
	if count[true] < 800 || count[false] < 800 {
		t.Errorf("%v of the programs are valid", count)
	}
}

func TestLevels(t *testing.T) {
	for text, want := range map[string]map[string]int{
		"": {},
		"P(x y) :- E(x y). P(x y) :- E(x z), P(z y). Q(x) :- not P(x x).":    {"P": 0, "Q": 1},
		"C(). A() :- not B(). B() :- not C(), not D(). E() :- A(), not B().": {"A": 2, "B": 1, "C": 0, "E": 2},
		"A() :- B(). B() :- C(). C() :- A(). C() :- not D(). D() :- E().":    {"A": 1, "B": 1, "C": 1, "D": 0},
		"A() :- B(), not B(). B() :- x < y.":                                 {"A": 1, "B": 0},
	} {
		names, numbers, e := rules.Levels(program(t, text))
		if e != api.OK || !slices.Equal(names, slices.Sorted(maps.Keys(want))) || len(numbers) != len(names) {
			t.Fatalf("Levels(%q) is %q %v, error %d", text, names, numbers, e)
		}
		for i, name := range names {
			if numbers[i] != want[name] {
				t.Errorf("Levels(%q) is %q %v", text, names, numbers)
			}
		}
	}
}

// TestManyLevels has a program of as many levels as possible, in an order in which each one is found last.
func TestManyLevels(t *testing.T) {
	names := numbered("P", 60)
	var l []api.Rule
	for i, name := range names {
		r := rule(head(name, ""))
		if i > 0 {
			r.Body = []api.Cond{not(rel(names[i-1], ""))}
		}
		l = append(l, r)
	}
	slices.Reverse(l)
	list, numbers, e := rules.Levels(l)
	if e != api.OK || len(list) != 60 || !slices.IsSorted(list) {
		t.Fatalf("Levels is %q, error %d", list, e)
	}
	for i, name := range list {
		if numbers[i] != slices.Index(names, name) {
			t.Errorf("the level of %s is %d", name, numbers[i])
		}
	}
	l[59].Body = []api.Cond{rel("P59", "")}
	if rules.Valid(l) {
		t.Errorf("a circle of 60 names with a negation is valid")
	}
}

// TestLargeArguments has lists that are too long to be looked through.
func TestLargeArguments(t *testing.T) {
	long := make([]string, 1<<20)
	wide := api.Atom{Name: "P", Args: long}
	for _, l := range [][]api.Rule{
		make([]api.Rule, 1<<20),
		{{Head: wide}},
		{rule(head("P", ""), make([]api.Cond, 1<<20)...)},
		{rule(head("P", ""), api.Cond{Atom: wide})},
		{rule(head("P", ""), api.Cond{Kind: api.FEq, Atom: wide})},
		{rule(head("P", ""), api.Cond{Kind: math.MinInt, Atom: wide})},
		{rule(head(strings.Repeat("P", 1<<20), ""))},
	} {
		if rules.Valid(l) {
			t.Errorf("a program of %d rules is valid", len(l))
		}
	}
}
