package shape_test

import (
	"math"
	"strings"
	"testing"

	"paraphrast/api"
	"paraphrast/shape"
)

func reservedWords() []string {
	return strings.Fields("and or not some all lfp pfp tc exists true false")
}

func TestNameLength(t *testing.T) {
	for _, good := range []string{"E", "x1", "abcdefghijkl", "Z99999999999"} {
		if !shape.Name(good) {
			t.Errorf("%q is no name", good)
		}
	}
	for _, bad := range []string{"", "abcdefghijklm", "a123456789012", strings.Repeat("a", 100000)} {
		if shape.Name(bad) {
			t.Errorf("%q is a name", bad)
		}
	}
}

func TestNameBytes(t *testing.T) {
	letters := "abcdefghijklmnopqrstuvwxyzABCDEFGHIJKLMNOPQRSTUVWXYZ"
	for c := range 256 {
		b := string([]byte{byte(c)})
		isLetter := strings.Contains(letters, b)
		isDigit := strings.Contains("0123456789", b)
		if shape.Name(b) != isLetter {
			t.Errorf("Name(%q) is %v", b, !isLetter)
		}
		for _, s := range []string{"a" + b, "a" + b + "a"} {
			if want := (isLetter || isDigit) && s != "all"; shape.Name(s) != want {
				t.Errorf("Name(%q) is %v", s, !want)
			}
		}
	}
	for _, bad := range []string{"é", "aé", "日", "a\x00", "a b", "1a"} {
		if shape.Name(bad) {
			t.Errorf("%q is a name", bad)
		}
	}
}

func TestNameReservedWords(t *testing.T) {
	for _, w := range reservedWords() {
		if shape.Name(w) {
			t.Errorf("the word %q is a name", w)
		}
		for _, good := range []string{w + "1", "x" + w, strings.ToUpper(w), strings.ToUpper(w[:1]) + w[1:], w[:len(w)-1]} {
			if !shape.Name(good) {
				t.Errorf("%q is no name", good)
			}
		}
	}
}

func wantValid(t *testing.T, s api.Structure, want bool) {
	t.Helper()
	if shape.Valid(s) != want {
		t.Errorf("Valid(%v) is %v", s, !want)
	}
}

func TestValidSize(t *testing.T) {
	for _, n := range []int{math.MinInt, -64, -1, 0, 65, 1000, math.MaxInt} {
		wantValid(t, api.Structure{Size: n}, false)
	}
	for n := 1; n <= 64; n++ {
		wantValid(t, api.Structure{Size: n}, true)
	}
}

func TestValidNumberOfRelations(t *testing.T) {
	s := api.Structure{Size: 2}
	for i := range 12 {
		wantValid(t, s, i <= 8)
		s.Rels = append(s.Rels, api.Rel{Name: "R" + string(rune('a'+i)), Arity: 1})
	}
}

func TestValidNames(t *testing.T) {
	for _, bad := range append(reservedWords(), "", "1", "a_b", "abcdefghijklm", "é") {
		wantValid(t, api.Structure{Size: 2, Rels: []api.Rel{{Name: bad, Arity: 1}}}, false)
		wantValid(t, api.Structure{Size: 2, Rels: []api.Rel{{Name: "E", Arity: 1}, {Name: bad, Arity: 1}}}, false)
	}
	wantValid(t, api.Structure{Size: 2, Rels: []api.Rel{{Name: "abcdefghijkl"}, {Name: "e"}, {Name: "E"}}}, true)
	for arity := range 3 {
		wantValid(t, api.Structure{Size: 2, Rels: []api.Rel{{Name: "E", Arity: 1}, {Name: "P"}, {Name: "E", Arity: arity}}}, false)
	}
}

func TestValidArityAndCells(t *testing.T) {
	for n := 1; n <= 64; n++ {
		for k := -2; k <= 15; k++ {
			want := k >= 0 && k <= 12 && math.Pow(float64(n), float64(k)) <= 4096
			wantValid(t, api.Structure{Size: n, Rels: []api.Rel{{Name: "E", Arity: k}}}, want)
		}
	}
	for _, k := range []int{math.MinInt, math.MaxInt} {
		wantValid(t, api.Structure{Size: 1, Rels: []api.Rel{{Name: "E", Arity: k}}}, false)
	}
}

func TestValidTuples(t *testing.T) {
	cases := []struct {
		arity  int
		tuples [][]int
		want   bool
	}{
		{0, nil, true},
		{0, [][]int{}, true},
		{0, [][]int{{}}, true},
		{0, [][]int{nil}, true},
		{0, [][]int{{}, {}}, false},
		{0, [][]int{{0}}, false},
		{1, [][]int{{0}, {1}, {2}}, true},
		{1, [][]int{{}}, false},
		{1, [][]int{{0, 0}}, false},
		{1, [][]int{{3}}, false},
		{1, [][]int{{-1}}, false},
		{1, [][]int{{0}, {0}}, false},
		{1, [][]int{{1}, {0}}, false},
		{1, [][]int{{0}, {2}, {1}}, false},
		{2, [][]int{{0, 2}, {1, 0}, {2, 2}}, true},
		{2, [][]int{{1, 0}, {0, 2}}, false},
		{2, [][]int{{1, 1}, {1, 0}}, false},
		{2, [][]int{{1, 1}, {1, 1}}, false},
		{2, [][]int{{0, 0}, {1}}, false},
		{2, [][]int{{0, 0}, {1, 1, 1}}, false},
		{2, [][]int{{0, 3}}, false},
		{2, [][]int{{0, 0}, {2, math.MaxInt}}, false},
		{2, [][]int{{math.MinInt, 0}}, false},
		{2, allTuples(3, 2), true},
		{3, allTuples(3, 3), true},
	}
	for _, c := range cases {
		r := api.Rel{Name: "R", Arity: c.arity, Tuples: c.tuples}
		wantValid(t, api.Structure{Size: 3, Rels: []api.Rel{r}}, c.want)
		wantValid(t, api.Structure{Size: 3, Rels: []api.Rel{{Name: "P", Arity: 1, Tuples: [][]int{{1}}}, r, {Name: "Q"}}}, c.want)
	}
	wantValid(t, api.Structure{Size: 64, Rels: []api.Rel{{Name: "R", Arity: 2, Tuples: allTuples(64, 2)}}}, true)
	wantValid(t, api.Structure{Size: 1, Rels: []api.Rel{{Name: "R", Arity: 12, Tuples: allTuples(1, 12)}}}, true)
}

func TestInvalidStructuresAreErrForm(t *testing.T) {
	for _, s := range invalid() {
		wantValid(t, s, false)
		if l := shape.Symbols(s); len(l) != 0 {
			t.Errorf("Symbols(%v) is %v", s, l)
		}
		// The other arguments do not fit either: ErrForm comes first.
		if is, e := shape.Has(s, "unknown", []int{9}); is || e != api.ErrForm {
			t.Errorf("Has of %v is %v, error %d", s, is, e)
		}
		r, e := shape.Put(s, "unknown", []int{9}, true)
		wantStructure(t, "Put", r, e, api.Structure{}, api.ErrForm)
		r, e = shape.Permute(s, []int{7, 7})
		wantStructure(t, "Permute", r, e, api.Structure{}, api.ErrForm)
		r, e = shape.Keep(s, []api.Symbol{{Name: "unknown"}, {Name: "unknown"}})
		wantStructure(t, "Keep", r, e, api.Structure{}, api.ErrForm)
		if text, e := shape.Text(s); text != "" || e != api.ErrForm {
			t.Errorf("Text(%v) is %q, error %d", s, text, e)
		}
	}
}
