package shape_test

import (
	"math/rand"
	"regexp"
	"strconv"
	"strings"
	"testing"

	"paraphrast/api"
	"paraphrast/shape"
)

func forms() []string {
	return []string{
		"1",
		"64",
		"10; P/1 0 9",
		"3; E/2 0,1 1,2; P/1 2; Q/0 ()",
		"3; Q/0; E/2; P/1",
		"1; abcdefghijkl/12 0,0,0,0,0,0,0,0,0,0,0,0; Z9/0 ()",
		"64; E/2 0,0 0,63 9,10 10,9 63,63",
		"2; T/12 0,0,0,0,0,0,0,0,0,0,0,1 1,1,1,1,1,1,1,1,1,1,1,1",
		"2; A/0; B/0; C/0; D/0; a/0; b/0; c/0; d/0 ()",
	}
}

func TestTextsOfStructures(t *testing.T) {
	s := api.Structure{Size: 12, Rels: []api.Rel{
		{Name: "E", Arity: 2, Tuples: [][]int{{0, 11}, {10, 9}}},
		{Name: "P", Arity: 1, Tuples: [][]int{{0}, {10}}},
		{Name: "Q0", Arity: 0, Tuples: [][]int{{}}},
		{Name: "N", Arity: 0},
		{Name: "M", Arity: 3},
	}}
	want := "12; E/2 0,11 10,9; P/1 0 10; Q0/0 (); N/0; M/3"
	if text, e := shape.Text(s); text != want || e != api.OK {
		t.Errorf("the text is %q, error %d", text, e)
	}
	r, e := shape.Parse(want)
	wantStructure(t, "Parse", r, e, s, api.OK)
	for _, text := range forms() {
		if again, e := shape.Text(parse(t, text)); again != text || e != api.OK {
			t.Errorf("the text of the structure of %q is %q, error %d", text, again, e)
		}
	}
}

// TestParseOfText is the first half of promise P1.4.
func TestParseOfText(t *testing.T) {
	random := rand.New(rand.NewSource(4))
	for range 300 {
		s := randomStructure(random)
		text, e := shape.Text(s)
		if text != write(s) || e != api.OK {
			t.Fatalf("Text(%v) is %q, error %d", s, text, e)
		}
		r, e := shape.Parse(text)
		wantStructure(t, "Parse", r, e, s, api.OK)
	}
}

func wantRejected(t *testing.T, text string) {
	t.Helper()
	if s, e := shape.Parse(text); e != api.ErrParse || !same(s, api.Structure{}) {
		t.Errorf("Parse(%q) is %v, error %d", text, s, e)
	}
}

func TestParseRejectsOtherStrings(t *testing.T) {
	for _, bad := range []string{
		"", " ", "3 ", " 3", "3;", "3; ", ";", "; E/1", "3\n", "\xff", "3\x00", "three",
		"0", "65", "-1", "+3", "03", "00", "3.0", "0x3", "1_0", "٣", "99999999999999999999", "18446744073709551617",
		"3; E", "3; E/", "3; /1", "3;E/1", "3;  E/1", "3; E /1", "3; E/ 1", "3, E/1", "3; E/1;P/1", "3; E/1 ; P/1", "3; E/1; ",
		"3; E/01", "3; E/-1", "3; E/+1", "3; E/8", "1; E/13", "64; E/3", "3; E/99999999999999999999",
		"3; and/1", "3; 1E/1", "3; E_/1", "3; É/1", "3; abcdefghijklm/1", "3; E/1; E/2", "3; E/1; P/1; E/1",
		"3; P/1 ", "3; P/1 0 ", "3; P/1  0", "3; P/1\t0", "3; P/1 3", "3; P/1 -1", "3; P/1 +1", "3; P/1 01", "3; P/1 00",
		"3; P/1 1 0", "3; P/1 0 0", "3; P/1 0,1", "3; P/1 ()", "3; P/1 (0)", "3; P/1 a", "3; P/1 18446744073709551616",
		"3; E/2 0", "3; E/2 0,", "3; E/2 ,0", "3; E/2 0,,1", "3; E/2 0, 1", "3; E/2 0 ,1", "3; E/2 0,1,2", "3; E/2 0,3", "3; E/2 0,01",
		"3; E/2 1,0 0,1", "3; E/2 0,1 0,1", "3; E/2 0,1 0,0", "3; E/2 0,1,1,2", "3; E/2 0,1;1,2", "3; E/2 (0,1)",
		"3; Q/0 () ()", "3; Q/0 0", "3; Q/0 (", "3; Q/0 )", "3; Q/0 ( )", "3; Q/0()", "3; Q/0 (),", "3; Q/0 ,",
		"2; A/0; B/0; C/0; D/0; E/0; F/0; G/0; H/0; I/0",
	} {
		wantRejected(t, bad)
	}
}

// decode reads a textual form apart from the package: by a pattern, without the rules of validity.
func decode(text string) (api.Structure, bool) {
	number := `(0|[1-9][0-9]*)`
	tuple := `(\(\)|` + number + `(,` + number + `)*)`
	if !regexp.MustCompile(`\A` + number + `(; [a-zA-Z0-9]+/` + number + `( ` + tuple + `)*)*\z`).MatchString(text) {
		return api.Structure{}, false
	}
	parts := strings.Split(text, "; ")
	s := api.Structure{}
	s.Size, _ = strconv.Atoi(parts[0])
	for _, part := range parts[1:] {
		words := strings.Split(part, " ")
		name, arity, _ := strings.Cut(words[0], "/")
		r := api.Rel{Name: name}
		r.Arity, _ = strconv.Atoi(arity)
		for _, word := range words[1:] {
			r.Tuples = append(r.Tuples, decodeTuple(word))
		}
		s.Rels = append(s.Rels, r)
	}
	return s, shape.Valid(s)
}

func decodeTuple(word string) []int {
	tuple := []int{}
	if word == "()" {
		return tuple
	}
	for _, digits := range strings.Split(word, ",") {
		x, _ := strconv.Atoi(digits)
		tuple = append(tuple, x)
	}
	return tuple
}

// judge compares Parse with the pattern and with the second half of promise P1.4.
func judge(t *testing.T, text string) {
	t.Helper()
	want, ok := decode(text)
	s, e := shape.Parse(text)
	if !ok || len(text) > api.MaxText {
		wantStructure(t, "Parse of "+text, s, e, want, api.ErrParse)
		return
	}
	wantStructure(t, "Parse of "+text, s, e, want, api.OK)
	if again, e := shape.Text(s); again != text || e != api.OK {
		t.Errorf("Parse accepts %q, but the text of its result is %q, error %d", text, again, e)
	}
}

// TestParseOfAlteredTexts changes textual forms at each place: most results are none, and some are another one.
func TestParseOfAlteredTexts(t *testing.T) {
	signs := []string{"", " ", ";", "; ", "/", ",", "(", ")", "()", "0", "1", "2", "9", "E", "z", "-", "+", "_", "\n", "\xff", "é"}
	for _, text := range forms() {
		for i := range len(text) + 1 {
			for _, sign := range signs {
				judge(t, text[:i]+sign+text[i:])
				if i < len(text) {
					judge(t, text[:i]+sign+text[i+1:])
				}
			}
			judge(t, text[:i])
		}
	}
}

func FuzzParse(f *testing.F) {
	for _, text := range forms() {
		f.Add(text)
	}
	f.Fuzz(judge)
}

// long returns a valid structure whose textual form has this many bytes; there are some only from about 23000 to 56000.
func long(t *testing.T, size int) api.Structure {
	t.Helper()
	all := allTuples(64, 2)
	s := api.Structure{Size: 64, Rels: []api.Rel{{Name: "E", Arity: 2, Tuples: all}, {Name: "F", Arity: 2}}}
	length := len(write(s))
	for i, tuple := range all {
		// Once less than a tuple and the longest name would fill is missing, the name fills it.
		if size-length < 12 {
			s.Rels[1].Tuples = all[:i]
			break
		}
		length += 1 + len(writeTuple(tuple))
	}
	s.Rels[1].Name = strings.Repeat("F", 1+size-length)
	if len(write(s)) != size {
		t.Fatalf("the structure for %d bytes has %d", size, len(write(s)))
	}
	return s
}

func TestLongestText(t *testing.T) {
	for _, size := range []int{39999, 40000} {
		s := long(t, size)
		text, e := shape.Text(s)
		if e != api.OK || text != write(s) {
			t.Errorf("the text of %d bytes has %d, error %d", size, len(text), e)
		}
		r, e := shape.Parse(write(s))
		wantStructure(t, "Parse", r, e, s, api.OK)
	}
	for _, size := range []int{40001, 40002, 45000} {
		s := long(t, size)
		wantValid(t, s, true)
		if text, e := shape.Text(s); e != api.ErrSize || text != "" {
			t.Errorf("the text of %d bytes has %d, error %d", size, len(text), e)
		}
		wantRejected(t, write(s))
	}
	wantRejected(t, strings.Repeat("1", 1<<20))
	wantRejected(t, "1; P/0"+strings.Repeat(" ()", 1<<20))
}
