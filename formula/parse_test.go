package formula_test

import (
	"math/rand"
	"strings"
	"testing"

	"paraphrast/api"
	"paraphrast/formula"
)

// wantFormula fails unless f, at and e are what Parse should return for a text.
func wantFormula(t *testing.T, text string, f api.Formula, at int, e api.Errno, want api.Formula, wantAt int, wantErr api.Errno) {
	t.Helper()
	if e != wantErr || at != wantAt || !equal(f, want) {
		t.Errorf("Parse(%.300q) is %v, error %d at %d, instead of %v, error %d at %d", text, f, e, at, want, wantErr, wantAt)
	}
}

// judge compares Parse with what it should return, and with promise P2.1.
func judge(t *testing.T, text string) {
	t.Helper()
	want, wantAt, wantErr := answer(text)
	f, at, e := formula.Parse(text)
	wantFormula(t, text, f, at, e, want, wantAt, wantErr)
	if e != api.OK {
		return
	}
	again, e := formula.Text(f)
	if e == api.ErrSize {
		return
	}
	g, at, e2 := formula.Parse(again)
	if e != api.OK {
		t.Errorf("the result of %q has no text, error %d", text, e)
	}
	wantFormula(t, again, g, at, e2, f, 0, api.OK)
}

func wantAt(t *testing.T, text string, at int) {
	t.Helper()
	f, i, e := formula.Parse(text)
	wantFormula(t, text, f, i, e, api.Formula{}, at, api.ErrParse)
	judge(t, text)
}

// misfits are texts with the index of the token that cannot continue, or with their length if they end too early.
var misfits = map[string]int{
	"":                       0,
	" ":                      1,
	"\n \n":                  3,
	"x":                      1,
	"x ":                     2,
	"x y":                    2,
	"x = ":                   4,
	"x = 1":                  4,
	"x = and":                4,
	"x = y z":                6,
	"x = y = z":              6,
	"x == y":                 3,
	"x > y":                  2,
	"1 = x":                  0,
	"= x":                    0,
	"E(x":                    3,
	"E(x ":                   4,
	"E(x,y)":                 3,
	"E(1)":                   2,
	"E(x true)":              4,
	"E(x) y":                 5,
	"E(x))":                  4,
	"E(x)(y)":                4,
	"E((x))":                 2,
	"E x":                    2,
	"(E(x))":                 0,
	"E[x]":                   1,
	"E(x-y)":                 3,
	"E(x\ty)":                3,
	"E(x\ry)":                3,
	"E(x\x00y)":              3,
	"E(x\u00a0y)":            3,
	"é(x)":                   0,
	"E(é)":                   2,
	"E(xé)":                  3,
	"\xff":                   0,
	"?":                      0,
	"  ?":                    2,
	"true false":             5,
	"true()":                 4,
	"truE":                   4,
	"true1":                  5,
	"false,":                 5,
	"not":                    3,
	"not x":                  4,
	"not(":                   4,
	"not()":                  4,
	"not(x)":                 5,
	"not(true":               8,
	"not(true, true)":        8,
	"not(true)(x)":           9,
	"not true":               4,
	"Not(true)":              4,
	"and":                    3,
	"and true":               4,
	"and(":                   4,
	"and(,)":                 4,
	"and(,true)":             4,
	"and(true,)":             9,
	"and(true true)":         9,
	"and(true,,true)":        9,
	"and(true, true":         14,
	"or(true;false)":         7,
	"and(())":                4,
	"and()()":                5,
	"some(":                  5,
	"some(x":                 6,
	"some(x)":                6,
	"some(x E(x))":           8,
	"some(x,y: true)":        6,
	"some(x 1: true)":        7,
	"some(1: true)":          5,
	"some(all: true)":        5,
	"some x: true":           5,
	"some(x: )":              8,
	"some(x: true, true)":    12,
	"some(x: true)(x)":       13,
	"some(x:: true)":         7,
	"all(x y: E(x y)":        15,
	"lfp(: true)(x)":         4,
	"lfp(1 x: true)(x)":      4,
	"lfp(and x: true)(x)":    4,
	"lfp(R x: true)":         14,
	"lfp(R x: true) x":       15,
	"lfp(R x: true)(x":       16,
	"lfp(R x: true)(x, y)":   16,
	"lfp(R x: true)(1)":      15,
	"lfp(R x: true)(x)(x)":   17,
	"lfp(R x: true)x)":       14,
	"lfp(R 1: true)(x)":      6,
	"lfp(R(x): true)(x)":     5,
	"pfp()":                  4,
	"tc(1: true)()":          3,
	"tc(x y: true)":          13,
	"tc(x y, true)(x y)":     6,
	"tc x y":                 3,
	"exists(R: true)":        8,
	"exists(R2: true)":       9,
	"exists(R )":             9,
	"exists(2 R: true)":      7,
	"exists(R x: true)":      9,
	"exists(R 1 2: true)":    11,
	"exists(R 1 x: true)":    11,
	"exists(R 01: true)":     9,
	"exists(R 00: true)":     9,
	"exists(R 100: true)":    9,
	"exists(R 1000000: true": 9,
	"exists(R -1: true)":     9,
	"exists(R +1: true)":     9,
	"exists(R 1x: true)":     9,
	"exists(R 2true)":        9,
	"exists(R 1 true)":       11,
	"exists(R 1: true)(x)":   17,
	"exists(: true)":         7,
	"abcdefghijklm(x)":       0,
	"abcdefghijkl(x":         14,
	"E(x abcdefghijklm)":     4,
	"x = abcdefghijklm":      4,
	"some(abcdefghijklm: x)": 5,
	"E(123456789abcdefg)":    2,
}

func TestParseErrors(t *testing.T) {
	for text, at := range misfits {
		wantAt(t, text, at)
	}
}

// TestParseTokensOfAnyKind puts each token, and each byte, behind each beginning of each sample: where it cannot continue, the index is its own.
func TestParseTokensOfAnyKind(t *testing.T) {
	next := append(words(), "x", "R", "abcdefghijkl", "abcdefghijklm", "0", "9", "10", "99", "00", "01", "100", "1x", "(", ")", ",", ":", "=", "<", "()", "?", ";", "\t", "\xff", "é", "")
	for _, text := range sample() {
		for _, at := range append(tokens.FindAllStringIndex(text, -1), []int{0, 0}) {
			for _, token := range next {
				judge(t, text[:at[1]]+" "+token)
				judge(t, text[:at[1]]+token+" "+text[at[1]:])
			}
		}
	}
}

func TestParseBytesOfAnyKind(t *testing.T) {
	for _, text := range []string{"E(x y)", "exists(R 2: x = y)", "lfp(R x: R(x))(a)"} {
		for i := range len(text) + 1 {
			for c := range 256 {
				b := string([]byte{byte(c)})
				judge(t, text[:i]+b+text[i:])
				judge(t, text[:i]+b)
			}
		}
	}
}

// TestParseAlteredTexts leaves out, doubles and exchanges tokens of the samples.
func TestParseAlteredTexts(t *testing.T) {
	for _, text := range sample() {
		l := tokens.FindAllString(text, -1)
		for i := range l {
			without := append(append([]string{}, l[:i]...), l[i+1:]...)
			judge(t, strings.Join(without, " "))
			for k := range len(l) {
				changed := append([]string{}, l...)
				changed[i] = l[k]
				judge(t, strings.Join(changed, " "))
			}
		}
	}
}

// TestParseAtRandom makes texts of random tokens behind beginnings of texts.
func TestParseAtRandom(t *testing.T) {
	r := rand.New(rand.NewSource(5))
	var all []string
	for _, text := range sample() {
		all = append(all, tokens.FindAllString(text, -1)...)
	}
	for _, f := range randomFormulas(3, 3000) {
		l := tokens.FindAllString(write(f), -1)
		judge(t, write(f))
		for range 3 {
			l[r.Intn(len(l))] = all[r.Intn(len(all))]
		}
		judge(t, strings.Join(l, " "))
	}
}

// TestParseOfTheGrammar has texts that belong to the grammar, but whose formulas are not valid.
func TestParseOfTheGrammar(t *testing.T) {
	for _, text := range []string{
		"some(: true)",
		"all( : true)",
		"some(x x: true)",
		"lfp(R: true)()",
		"lfp(R: true)(x)",
		"lfp(R x: true)()",
		"lfp(R x: true)(x x)",
		"lfp(R x: not(R(x)))(a)",
		"lfp(R x x: true)(a a)",
		"pfp(R: true)()",
		"pfp(R x: R())(a)",
		"tc(: true)()",
		"tc(x: true)(x)",
		"tc(x y: true)(x)",
		"tc(x y z: true)(x y z)",
		"tc(x x: true)(a b)",
		"exists(R 13: true)",
		"exists(R 99: true)",
		"exists(R 2: R(x))",
		"and(R(x), R())",
		"R(a a a a a a a a a a a a a)",
		write(nested(61)),
		write(wide(4001)),
	} {
		f, at, e := formula.Parse(text)
		wantFormula(t, text, f, at, e, api.Formula{}, 0, api.ErrForm)
		// A syntax error comes first.
		f, at, e = formula.Parse(text + ")")
		wantFormula(t, text+")", f, at, e, api.Formula{}, len(text), api.ErrParse)
	}
}

func TestParseLimits(t *testing.T) {
	for _, f := range []api.Formula{nested(60), wide(4000), exists("R", 12, rel("R", strings.Repeat("x ", 12)))} {
		g, at, e := formula.Parse(write(f))
		wantFormula(t, write(f), g, at, e, f, 0, api.OK)
	}
	const most = 40000
	blanks := strings.Repeat(" \n", most/2)
	for _, text := range []string{"Q()", "true", "?", "exists(R 13: true)", ""} {
		for _, padded := range []string{text + blanks[len(text):], blanks[len(text):] + text} {
			judge(t, padded)
			if f, at, e := formula.Parse(padded + " "); e != api.ErrSize || at != 0 || !equal(f, api.Formula{}) {
				t.Errorf("a text that is too long is %v, error %d at %d", f, e, at)
			}
		}
	}
	f, at, e := formula.Parse(strings.Repeat("?", 1<<20))
	wantFormula(t, "many signs", f, at, e, api.Formula{}, 0, api.ErrSize)
}

// TestParseOfDeepTexts has texts that are as deep as their length allows.
func TestParseOfDeepTexts(t *testing.T) {
	for _, c := range []struct{ open, middle, shut string }{
		{"not(", "true", ")"}, {"or(", "", ")"}, {"and(x=x,", "x=x", ",x=x)"}, {"tc(:", "true", ")()"}, {"exists(R 1:", "true", ")"}, {"lfp(R x:", "R(x)", ")(x)"}, {"some(x:", "x=x", ")"},
	} {
		n := (40000 - len(c.middle)) / (len(c.open) + len(c.shut))
		text := strings.Repeat(c.open, n) + c.middle + strings.Repeat(c.shut, n)
		f, at, e := formula.Parse(text)
		wantFormula(t, text, f, at, e, api.Formula{}, 0, api.ErrForm)
		f, at, e = formula.Parse(text[:len(text)-1] + "?")
		wantFormula(t, text, f, at, e, api.Formula{}, len(text)-1, api.ErrParse)
		f, at, e = formula.Parse(text[:len(text)-1])
		wantFormula(t, text, f, at, e, api.Formula{}, len(text)-1, api.ErrParse)
		opened := strings.Repeat(c.open, 40000/len(c.open))
		f, at, e = formula.Parse(opened)
		wantFormula(t, opened, f, at, e, api.Formula{}, len(opened), api.ErrParse)
	}
}

// joined puts blanks between tokens: before, in between and behind.
func joined(l []string, blanks func(left, right string) string) string {
	var b strings.Builder
	left := ""
	for _, token := range append(l, "") {
		b.WriteString(blanks(left, token))
		b.WriteString(token)
		left = token
	}
	return b.String()
}

// needed reports whether two tokens run into each other without a blank.
func needed(left, right string) bool {
	return symbol(left) != left && symbol(right) != right && left != "" && right != ""
}

// TestBlanks is promise P2.2: any blanks, and none where none are needed.
func TestBlanks(t *testing.T) {
	r := rand.New(rand.NewSource(6))
	ways := []func(left, right string) string{
		func(left, right string) string { return " " },
		func(left, right string) string { return "\n" },
		func(left, right string) string { return " \n \n\n  " },
		func(left, right string) string {
			if needed(left, right) {
				return " "
			}
			return ""
		},
		func(left, right string) string {
			if needed(left, right) {
				return "\n"
			}
			return ""
		},
		func(left, right string) string {
			blanks := ""
			for needed(left, right) && blanks == "" || r.Intn(2) == 0 {
				blanks += []string{" ", "\n"}[r.Intn(2)]
			}
			return blanks
		},
	}
	texts := append(sample(), "and()", "or( )", "exists(R 13: true)", "lfp(R x: not(R(x)))(a)", "some(: true)")
	for _, text := range texts {
		want, _, wantErr := answer(text)
		l := tokens.FindAllString(text, -1)
		for _, blanks := range ways {
			other := joined(l, blanks)
			f, at, e := formula.Parse(other)
			wantFormula(t, other, f, at, e, want, 0, wantErr)
		}
	}
}

// TestBlanksBeforeErrors is promise P2.2 for texts with an error: its index moves with its token.
func TestBlanksBeforeErrors(t *testing.T) {
	for _, text := range []string{"?", "x y", "E(x ?)", "some(x E(x))", "exists(R 01: true)", "E(x) y", "and(true,)"} {
		_, at, _ := formula.Parse(text)
		for i := range len(text) + 1 {
			if i > 0 && i < len(text) && needed(text[i-1:i], text[i:i+1]) {
				continue
			}
			want := at
			if i <= at {
				want += 2
			}
			wantAt(t, text[:i]+" \n"+text[i:], want)
		}
	}
	// A text that ends too early has its length as the index.
	for _, text := range []string{"", "x", "x =", "E(x", "not(true", "exists(R 1: true", "lfp(R x: R(x))"} {
		wantAt(t, text, len(text))
		wantAt(t, text+"\n  ", len(text)+3)
		wantAt(t, " "+text, len(text)+1)
	}
	// Blanks within a token make two of it.
	for text, at := range map[string]int{"t rue": 2, "tr\nue": 3, "exists(R 1 2: true)": 11, "no t(true)": 3, "x y = z": 2, "some(x: tr ue)": 11} {
		wantAt(t, text, at)
	}
}

func FuzzParse(f *testing.F) {
	for _, text := range sample() {
		f.Add(text)
	}
	for _, text := range []string{"and()", "exists(R 13: true)", "E(x abcdefghijklm)", "some(x E(x))"} {
		f.Add(text)
	}
	f.Fuzz(judge)
}
