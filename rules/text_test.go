package rules_test

import (
	"slices"
	"strings"
	"testing"

	"paraphrast/api"
	"paraphrast/rules"
)

// sameProgram reports whether two programs are the same.
func sameProgram(a, b []api.Rule) bool {
	return equal(a, b)
}

func TestText(t *testing.T) {
	for _, c := range []struct {
		l    []api.Rule
		want string
	}{
		{nil, ""},
		{[]api.Rule{rule(head("P", ""))}, "P().\n"},
		{[]api.Rule{rule(head("P", "x y"), rel("E", "x y")), rule(head("P", "x y"), rel("E", "x z"), rel("P", "z y"))}, "P(x y) :- E(x y).\nP(x y) :- E(x z), P(z y).\n"},
		{[]api.Rule{rule(head("Q", "x"), not(rel("P", "x x")))}, "Q(x) :- not P(x x).\n"},
		{[]api.Rule{rule(head("Q", "x x"), eq("x", "y"), not(less("y", "x")), less("x", "z"), not(eq("z", "z")), rel("Z", ""))}, "Q(x x) :- x = y, not y < x, x < z, not z = z, Z().\n"},
	} {
		text, e := rules.Text(c.l)
		if e != api.OK || text != c.want {
			t.Errorf("Text(%v) is %q, error %d, instead of %q", c.l, text, e, c.want)
		}
		if l, e := rules.Parse(c.want); e != api.OK || !sameProgram(l, c.l) {
			t.Errorf("Parse(%q) is %v, error %d", c.want, l, e)
		}
		if l, e := rules.Parse(strings.TrimSuffix(c.want, "\n")); e != api.OK || !sameProgram(l, c.l) {
			t.Errorf("Parse(%q) without the line feed is %v, error %d", c.want, l, e)
		}
	}
}

func TestBlanks(t *testing.T) {
	want := program(t, "P(x y) :- E(x y), not x = y.\nQ().\nR(x) :- not P(x x), x < x.\n")
	for _, text := range []string{
		"P(x y):-E(x y),not x=y.Q().R(x):-not P(x x),x<x.",
		"  P ( x\ny ) :-\n\nE(x  y ) , not\nx = y . Q ( ) .R(x ) :- not  P( x x), x\n<\nx.  \n\n ",
	} {
		if l, e := rules.Parse(text); e != api.OK || !sameProgram(l, want) {
			t.Errorf("Parse(%q) is %v, error %d", text, l, e)
		}
	}
	for _, text := range []string{"", " ", "\n", " \n\n  "} {
		if l, e := rules.Parse(text); e != api.OK || len(l) > 0 {
			t.Errorf("Parse(%q) is %v, error %d", text, l, e)
		}
	}
}

func TestNoText(t *testing.T) {
	for text, want := range map[string]api.Errno{
		"P":                     api.ErrParse,
		"P(":                    api.ErrParse,
		"P()":                   api.ErrParse,
		"P(x":                   api.ErrParse,
		"P(x.":                  api.ErrParse,
		"P(x,y).":               api.ErrParse,
		"P(x)..":                api.ErrParse,
		".":                     api.ErrParse,
		"x = y.":                api.ErrParse,
		"P(x) :-":               api.ErrParse,
		"P(x) :- .":             api.ErrParse,
		"P(x) : - Q(x).":        api.ErrParse,
		"P(x) : Q(x).":          api.ErrParse,
		"P(x) - Q(x).":          api.ErrParse,
		"P(x) :- Q(x)":          api.ErrParse,
		"P(x) :- Q(x),.":        api.ErrParse,
		"P(x) :- , Q(x).":       api.ErrParse,
		"P(x) :- Q(x) R(x).":    api.ErrParse,
		"P(x) :- Q(x), not.":    api.ErrParse,
		"P(x) :- not not Q(x).": api.ErrParse,
		"P(x) :- not(Q(x)).":    api.ErrParse,
		"P(x) :- not(x).":       api.ErrParse,
		"P(x) :- not (x).":      api.ErrParse,
		"P(not).":               api.ErrParse,
		"not P(x).":             api.ErrParse,
		"not(x).":               api.ErrParse,
		"P(x) :- x.":            api.ErrParse,
		"P(x) :- x = .":         api.ErrParse,
		"P(x) :- = y.":          api.ErrParse,
		"P(x) :- x = not.":      api.ErrParse,
		"P(x) :- x == y.":       api.ErrParse,
		"P(x) :- x > y.":        api.ErrParse,
		"P(x) :- x = y = z.":    api.ErrParse,
		"P(x) :- x y.":          api.ErrParse,
		"true() .":              api.ErrParse,
		"P(x) :- lfp(x).":       api.ErrParse,
		"P(some).":              api.ErrParse,
		"1(x).":                 api.ErrParse,
		"P(1x).":                api.ErrParse,
		"P(x) :- 2 = x.":        api.ErrParse,
		"P(abcdefghijklm).":     api.ErrParse,
		"P(x)\t.":               api.ErrParse,
		"P(x).\r\n":             api.ErrParse,
		"P(x).\x00":             api.ErrParse,
		"P(é).":                 api.ErrParse,
		"P(x) :- Q(x); R(x).":   api.ErrParse,

		"R(x) :- not R(x).":                                     api.ErrForm,
		"P(x). P(x y).":                                         api.ErrForm,
		"P(x x x x x x x x x x x x x).":                         api.ErrForm,
		"P(x) :- Q(x x x x x x x x x x x x x).":                 api.ErrForm,
		"P(a b c d e f) :- Q(g h i j k l), m = a.":              api.ErrForm,
		"P() :- " + strings.Repeat("Q(), ", 20) + "Q().":        api.ErrForm,
		strings.Repeat("P(). ", 61):                             api.ErrForm,
		strings.Repeat("P(). ", 61) + "P":                       api.ErrParse,
		strings.Repeat(" ", 40000):                              api.OK,
		strings.Repeat(" ", 40001):                              api.ErrSize,
		strings.Repeat("P", 40001):                              api.ErrSize,
		"P(" + strings.Repeat("x ", 10000) + ").":               api.ErrForm,
		strings.Repeat("P().", 60) + strings.Repeat(" ", 39760): api.OK,
	} {
		l, e := rules.Parse(text)
		if e != want || e != api.OK && len(l) > 0 {
			t.Errorf("Parse(%.60q) is %v, error %d instead of %d", text, l, e, want)
		}
	}
}

// TestLongText has programs of as many bytes as a text may have, and of one more.
func TestLongText(t *testing.T) {
	wide := api.Atom{Name: "P", Args: slices.Repeat([]string{"abcdefghijkl"}, 12)}
	var l []api.Rule
	for _, conds := range []int{20, 20, 20, 20, 20, 20, 20, 20, 20, 20, 20, 16, 0} {
		l = append(l, rule(wide, slices.Repeat([]api.Cond{{Atom: wide}}, conds)...))
	}
	text, _ := rules.Text(l)
	// The last rule has 12 variables, with 11 blanks between them, and 5 bytes around them.
	letters := api.MaxText - len(text) - 16
	last := rule(head("Q", ""))
	for i := range 12 {
		last.Head.Args = append(last.Head.Args, strings.Repeat("x", (letters+i)/12))
	}
	l = append(l, last)
	text, e := rules.Text(l)
	if e != api.OK || len(text) != api.MaxText {
		t.Fatalf("Text has %d bytes, error %d", len(text), e)
	}
	if back, e := rules.Parse(text); e != api.OK || !sameProgram(back, l) {
		t.Errorf("Parse is error %d", e)
	}
	last.Head.Args[0] += "x"
	if text, e := rules.Text(l); e != api.ErrSize || text != "" {
		t.Errorf("Text has %d bytes, error %d", len(text), e)
	}
}

// TestRandomText is P7.4: Parse of Text is the program, whatever the blanks are.
func TestRandomText(t *testing.T) {
	m := newMaker(5)
	for range 2000 {
		l := m.program(dress{5, 6, 5, 5, 3})
		text, e := rules.Text(l)
		if e != api.OK {
			t.Fatalf("Text(%v) is error %d", l, e)
		}
		if back, e := rules.Parse(text); e != api.OK || !sameProgram(back, l) {
			t.Errorf("Parse(%q) is %v, error %d", text, back, e)
		}
		other := m.blanks(text)
		if back, e := rules.Parse(other); e != api.OK || !sameProgram(back, l) {
			t.Errorf("Parse(%q) is %v, error %d", other, back, e)
		}
	}
}

// TestDamagedText compares Parse with the grammar for texts with a few wrong characters.
func TestDamagedText(t *testing.T) {
	m := newMaker(6)
	count := map[api.Errno]int{}
	pieces := []string{"", " ", "\n", "(", ")", ",", ".", ":-", ":", "-", "=", "<", "not", "not ", " x ", "x", "P(", "1", "or", "é", "!", "\t"}
	for range 20000 {
		text, _ := rules.Text(m.program(dress{3, 3, 3, 4, 2}))
		for range 1 + m.Intn(3) {
			i := m.Intn(len(text) + 1)
			j := min(len(text), i+m.Intn(3))
			text = text[:i] + pick(m, pieces...) + text[j:]
		}
		l, e := rules.Parse(text)
		count[e]++
		if (e != api.ErrParse) != grammatical(text) || e == api.OK && !isProgram(l) || e != api.OK && len(l) > 0 {
			t.Errorf("Parse(%q) is %v, error %d", text, l, e)
		}
		if e != api.OK {
			continue
		}
		again, e := rules.Text(l)
		if back, e2 := rules.Parse(again); e != api.OK || e2 != api.OK || !sameProgram(back, l) {
			t.Errorf("Parse(%q) is written %q", text, again)
		}
	}
	if count[api.OK] < 1000 || count[api.ErrParse] < 1000 || count[api.ErrForm] < 100 {
		t.Errorf("the errors are %v", count)
	}
}
