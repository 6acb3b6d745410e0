package formula_test

import (
	"strings"
	"testing"

	"paraphrast/api"
	"paraphrast/formula"
)

func wantText(t *testing.T, f api.Formula, want string) {
	t.Helper()
	if text, e := formula.Text(f); text != want || e != api.OK {
		t.Errorf("the text is %q, error %d, instead of %q", text, e, want)
	}
}

func TestTextOfKinds(t *testing.T) {
	cases := []struct {
		f    api.Formula
		want string
	}{
		{rel("Q", ""), "Q()"},
		{rel("E", "x y"), "E(x y)"},
		{rel("R", numbered("x", 12)), "R(x0 x1 x2 x3 x4 x5 x6 x7 x8 x9 x10 x11)"},
		{eq("x", "y"), "x = y"},
		{less("y", "x"), "y < x"},
		{not(eq("x", "x")), "not(x = x)"},
		{and(), "true"},
		{or(), "false"},
		{and(or()), "and(false)"},
		{or(and(), and()), "or(true, true)"},
		{and(rel("P", "x"), less("x", "y"), not(or())), "and(P(x), x < y, not(false))"},
		{some("x", rel("P", "x")), "some(x: P(x))"},
		{all("x y", rel("E", "x y")), "all(x y: E(x y))"},
		{lfp("R", "x", rel("R", "x"), "a"), "lfp(R x: R(x))(a)"},
		{pfp("R", "x y", not(rel("R", "x y")), "a b"), "pfp(R x y: not(R(x y)))(a b)"},
		{tc("x y", rel("E", "x y"), "a b"), "tc(x y: E(x y))(a b)"},
		{exists("R", 0, rel("R", "")), "exists(R 0: R())"},
		{exists("R", 12, and()), "exists(R 12: true)"},
	}
	for _, c := range cases {
		wantText(t, c.f, c.want)
		f, at, e := formula.Parse(c.want)
		wantFormula(t, c.want, f, at, e, c.f, 0, api.OK)
	}
}

// TestParseOfText is the first half of promise P2.1.
func TestParseOfText(t *testing.T) {
	for _, want := range sample() {
		wantText(t, parse(t, want), want)
	}
	for _, f := range randomValid(t, 2, 5000) {
		wantText(t, f, write(f))
		text, _ := formula.Text(f)
		g, at, e := formula.Parse(text)
		wantFormula(t, text, g, at, e, f, 0, api.OK)
	}
}

// TestTextOfResults is the second half of promise P2.1, for texts that are not in the textual form.
func TestTextOfResults(t *testing.T) {
	for text, want := range map[string]string{
		"and()":                             "true",
		"or()":                              "false",
		"or(and( ),or(\n))":                 "or(true, false)",
		"  E ( x\ny ) \n":                   "E(x y)",
		"x=y":                               "x = y",
		"x\n<\ny":                           "x < y",
		"and(x=y,x<y)":                      "and(x = y, x < y)",
		"some(x:P(x))":                      "some(x: P(x))",
		"lfp(R x:R(x))(x)":                  "lfp(R x: R(x))(x)",
		"pfp ( R x : R ( x ) ) ( x )":       "pfp(R x: R(x))(x)",
		"tc(x  y:E(x  y))(a  b)":            "tc(x y: E(x y))(a b)",
		"exists(R 2:all(x y:R(x y)))":       "exists(R 2: all(x y: R(x y)))",
		"\n\n exists\n(\nR\n10\n:\ntrue\n)": "exists(R 10: true)",
	} {
		f := parse(t, text)
		wantText(t, f, want)
		if !equal(parse(t, want), f) {
			t.Errorf("%q and %q are different formulas", text, want)
		}
	}
}

func TestTextErrors(t *testing.T) {
	for _, f := range []api.Formula{
		{},
		rel("R", numbered("x", 13)),
		not(api.Formula{}),
		{Kind: api.FKinds},
		lfp("R", "x", not(rel("R", "x")), "a"),
		and(rel("R", "x"), rel("R", "")),
		nested(61),
		wide(4001),
	} {
		if text, e := formula.Text(f); text != "" || e != api.ErrForm {
			t.Errorf("the text is %q, error %d", text, e)
		}
	}
}

// long returns a valid formula whose textual form has this number of bytes, from 100 on.
func long(size int) api.Formula {
	f := or()
	size -= len("or()")
	for size > 100 {
		f.Kids = append(f.Kids, rel("R", strings.Repeat("x ", 12)))
		size -= len("R(x x x x x x x x x x x x), ")
	}
	for range size / len("Q(), ") {
		f.Kids = append(f.Kids, rel("Q", ""))
	}
	last := size%len("Q(), ") + 2
	f.Kids = append(f.Kids[:len(f.Kids)-1], rel(strings.Repeat("Q", 1+last), ""))
	return f
}

func TestTextLength(t *testing.T) {
	for size := 39990; size <= 40010; size++ {
		f := long(size)
		want, wantErr := write(f), api.OK
		if len(want) != size || !valid(f) {
			t.Fatalf("the formula for %d bytes has %d", size, len(want))
		}
		g, at, e := formula.Parse(want)
		if size > 40000 {
			wantFormula(t, "a long text", g, at, e, api.Formula{}, 0, api.ErrSize)
			want, wantErr = "", api.ErrSize
		} else {
			wantFormula(t, "a long text", g, at, e, f, 0, api.OK)
		}
		if text, e := formula.Text(f); text != want || e != wantErr {
			t.Errorf("the text of %d bytes has %d, error %d", size, len(text), e)
		}
	}
	longest := or()
	for range 3999 {
		longest.Kids = append(longest.Kids, rel(strings.Repeat("R", 12), strings.Repeat(strings.Repeat("x", 12)+" ", 12)))
	}
	wantValid(t, longest, true)
	if text, e := formula.Text(longest); text != "" || e != api.ErrSize {
		t.Errorf("the longest text has %d bytes, error %d", len(text), e)
	}
}
