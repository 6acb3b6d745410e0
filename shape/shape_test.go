package shape_test

import (
	"math"
	"math/rand"
	"testing"

	"paraphrast/api"
	"paraphrast/shape"
)

func TestMake(t *testing.T) {
	symbols := []api.Symbol{{Name: "P", Arity: 1}, {Name: "E", Arity: 2}, {Name: "Z", Arity: 0}}
	s, e := shape.Make(3, symbols)
	wantStructure(t, "Make", s, e, parse(t, "3; P/1; E/2; Z/0"), api.OK)
	for _, n := range []int{1, 64} {
		s, e = shape.Make(n, nil)
		wantStructure(t, "Make", s, e, api.Structure{Size: n}, api.OK)
	}
	s, e = shape.Make(1, []api.Symbol{{Name: "abcdefghijkl", Arity: 12}})
	wantStructure(t, "Make", s, e, api.Structure{Size: 1, Rels: []api.Rel{{Name: "abcdefghijkl", Arity: 12}}}, api.OK)
}

func TestMakeNumberOfSymbols(t *testing.T) {
	var symbols []api.Symbol
	for i := range 10 {
		s, e := shape.Make(2, symbols)
		if ok := i <= 8; ok != (e == api.OK) || ok != (len(s.Rels) == i && s.Size == 2) {
			t.Errorf("Make with %d symbols is %v, error %d", i, s, e)
		}
		symbols = append(symbols, api.Symbol{Name: "R" + string(rune('0'+i)), Arity: i % 3})
	}
}

func TestMakeErrors(t *testing.T) {
	cases := []struct {
		n       int
		symbols []api.Symbol
	}{
		{0, nil},
		{-1, nil},
		{65, nil},
		{math.MaxInt, []api.Symbol{{Name: "E", Arity: 1}}},
		{2, []api.Symbol{{Name: "", Arity: 1}}},
		{2, []api.Symbol{{Name: "E", Arity: 1}, {Name: "not", Arity: 1}}},
		{2, []api.Symbol{{Name: "abcdefghijklm", Arity: 1}}},
		{2, []api.Symbol{{Name: "E", Arity: -1}}},
		{1, []api.Symbol{{Name: "E", Arity: 13}}},
		{64, []api.Symbol{{Name: "E", Arity: 3}}},
		{2, []api.Symbol{{Name: "E", Arity: math.MaxInt}}},
		{2, []api.Symbol{{Name: "E", Arity: 1}, {Name: "P", Arity: 1}, {Name: "E", Arity: 2}}},
		{2, []api.Symbol{{Name: "E", Arity: 1}, {Name: "E", Arity: 1}}},
	}
	for _, c := range cases {
		s, e := shape.Make(c.n, c.symbols)
		wantStructure(t, "Make", s, e, api.Structure{}, api.ErrForm)
	}
}

func TestSymbols(t *testing.T) {
	l := shape.Symbols(parse(t, "3; P/1 2; E/2 0,1 1,2; Z/0 (); A/3"))
	want := []api.Symbol{{Name: "P", Arity: 1}, {Name: "E", Arity: 2}, {Name: "Z", Arity: 0}, {Name: "A", Arity: 3}}
	if len(l) != len(want) {
		t.Fatalf("the symbols are %v", l)
	}
	for i := range want {
		if l[i] != want[i] {
			t.Errorf("symbol %d is %v", i, l[i])
		}
	}
	if l := shape.Symbols(api.Structure{Size: 3}); len(l) != 0 {
		t.Errorf("a structure without relations has the symbols %v", l)
	}
}

func wantHas(t *testing.T, s api.Structure, name string, tuple []int, want bool, wantErr api.Errno) {
	t.Helper()
	if is, e := shape.Has(s, name, tuple); is != want || e != wantErr {
		t.Errorf("Has(%v, %q, %v) is %v, error %d, instead of %v, error %d", s, name, tuple, is, e, want, wantErr)
	}
}

func TestHas(t *testing.T) {
	s := parse(t, "3; E/2 0,1 1,2; P/1 2; Q/0 (); N/0")
	for _, tuple := range allTuples(3, 2) {
		is := tuple[0]+1 == tuple[1]
		wantHas(t, s, "E", tuple, is, api.OK)
	}
	for x := range 3 {
		wantHas(t, s, "P", []int{x}, x == 2, api.OK)
	}
	wantHas(t, s, "Q", nil, true, api.OK)
	wantHas(t, s, "Q", []int{}, true, api.OK)
	wantHas(t, s, "N", nil, false, api.OK)
}

func TestHasOfOthersThanElements(t *testing.T) {
	s := parse(t, "3; E/2 0,1 1,2; P/1 0 1 2")
	for _, x := range []int{math.MinInt, -1, 3, 64, math.MaxInt} {
		wantHas(t, s, "P", []int{x}, false, api.OK)
		wantHas(t, s, "E", []int{x, 1}, false, api.OK)
		wantHas(t, s, "E", []int{1, x}, false, api.OK)
	}
}

// misfits lists names and tuples for which a structure with only E/2, P/1 and Q/0 has no relation.
func misfits() []api.Fact {
	return []api.Fact{
		{Name: "F", Tuple: []int{0, 1}},
		{Name: "e", Tuple: []int{0, 1}},
		{Name: "", Tuple: []int{0, 1}},
		{Name: "and", Tuple: []int{0, 1}},
		{Name: "E", Tuple: nil},
		{Name: "E", Tuple: []int{0}},
		{Name: "E", Tuple: []int{0, 1, 2}},
		{Name: "E", Tuple: []int{9, 9, 9}},
		{Name: "P", Tuple: []int{0, 1}},
		{Name: "Q", Tuple: []int{0}},
		{Name: "Q", Tuple: make([]int, 100)},
	}
}

func TestHasAndPutErrName(t *testing.T) {
	s := parse(t, "3; E/2 0,1 1,2; P/1 2; Q/0 ()")
	for _, f := range misfits() {
		wantHas(t, s, f.Name, f.Tuple, false, api.ErrName)
		for _, is := range []bool{false, true} {
			r, e := shape.Put(s, f.Name, f.Tuple, is)
			wantStructure(t, "Put", r, e, api.Structure{}, api.ErrName)
		}
	}
}

// TestPutChangesOneTuple is promise P1.2: for each tuple of random structures.
func TestPutChangesOneTuple(t *testing.T) {
	random := rand.New(rand.NewSource(1))
	for range 40 {
		s := randomStructure(random)
		for i, r := range s.Rels {
			for _, tuple := range allTuples(s.Size, r.Arity) {
				for _, is := range []bool{false, true} {
					putOne(t, s, i, tuple, is)
				}
			}
		}
	}
}

// putOne puts a tuple into relation i of s, or out of it, and compares with the tuples that are then due.
func putOne(t *testing.T, s api.Structure, i int, tuple []int, is bool) {
	t.Helper()
	want := clone(s)
	want.Rels[i].Tuples = nil
	for _, x := range allTuples(s.Size, s.Rels[i].Arity) {
		in, _ := shape.Has(s, s.Rels[i].Name, x)
		if sameInts(x, tuple) {
			in = is
		}
		if in {
			want.Rels[i].Tuples = append(want.Rels[i].Tuples, x)
		}
	}
	r, e := shape.Put(s, s.Rels[i].Name, tuple, is)
	wantStructure(t, "Put", r, e, want, api.OK)
	wantHas(t, r, s.Rels[i].Name, tuple, is, api.OK)
	wantValid(t, r, true)
}

func TestPutTexts(t *testing.T) {
	cases := []struct {
		before, name string
		tuple        []int
		is           bool
		after        string
	}{
		{"3; E/2 0,1 1,2", "E", []int{2, 0}, true, "3; E/2 0,1 1,2 2,0"},
		{"3; E/2 0,1 1,2", "E", []int{0, 0}, true, "3; E/2 0,0 0,1 1,2"},
		{"3; E/2 0,1 1,2", "E", []int{1, 0}, true, "3; E/2 0,1 1,0 1,2"},
		{"3; E/2 0,1 1,2", "E", []int{1, 2}, true, "3; E/2 0,1 1,2"},
		{"3; E/2 0,1 1,2", "E", []int{1, 2}, false, "3; E/2 0,1"},
		{"3; E/2 0,1 1,2", "E", []int{0, 1}, false, "3; E/2 1,2"},
		{"3; E/2 0,1 1,2", "E", []int{2, 1}, false, "3; E/2 0,1 1,2"},
		{"3; A/0; B/0 ()", "A", nil, true, "3; A/0 (); B/0 ()"},
		{"3; A/0; B/0 ()", "A", []int{}, false, "3; A/0; B/0 ()"},
		{"3; A/0; B/0 ()", "B", nil, true, "3; A/0; B/0 ()"},
		{"3; A/0; B/0 ()", "B", []int{}, false, "3; A/0; B/0"},
	}
	for _, c := range cases {
		s, e := shape.Put(parse(t, c.before), c.name, c.tuple, c.is)
		wantStructure(t, "Put", s, e, parse(t, c.after), api.OK)
	}
}

func TestPutErrArg(t *testing.T) {
	s := parse(t, "3; E/2 0,1 1,2; P/1 2")
	for _, x := range []int{math.MinInt, -1, 3, 64, math.MaxInt} {
		for _, is := range []bool{false, true} {
			for _, tuple := range [][]int{{x, 0}, {0, x}, {x, x}} {
				r, e := shape.Put(s, "E", tuple, is)
				wantStructure(t, "Put", r, e, api.Structure{}, api.ErrArg)
			}
			r, e := shape.Put(s, "P", []int{x}, is)
			wantStructure(t, "Put", r, e, api.Structure{}, api.ErrArg)
		}
	}
}

// permutations lists the orders of the elements 0 to n - 1.
func permutations(n int) [][]int {
	if n == 0 {
		return [][]int{{}}
	}
	var l [][]int
	for _, p := range permutations(n - 1) {
		for i := range n {
			q := append([]int{}, p[:i]...)
			q = append(q, n-1)
			l = append(l, append(q, p[i:]...))
		}
	}
	return l
}

// TestPermutedMembership is promise P1.3: for all permutations of up to four elements.
func TestPermutedMembership(t *testing.T) {
	random := rand.New(rand.NewSource(2))
	for range 20 {
		s := randomStructure(random)
		if s.Size > 4 {
			continue
		}
		for _, perm := range permutations(s.Size) {
			r, e := shape.Permute(s, perm)
			if e != api.OK || !shape.Valid(r) || r.Size != s.Size || len(r.Rels) != len(s.Rels) {
				t.Fatalf("Permute(%v, %v) is %v, error %d", s, perm, r, e)
			}
			for i := range s.Rels {
				permutedRel(t, s, r, i, perm)
			}
		}
	}
}

func permutedRel(t *testing.T, s, r api.Structure, i int, perm []int) {
	t.Helper()
	name := s.Rels[i].Name
	if r.Rels[i].Name != name || r.Rels[i].Arity != s.Rels[i].Arity {
		t.Errorf("relation %d is %s/%d", i, r.Rels[i].Name, r.Rels[i].Arity)
	}
	for _, tuple := range allTuples(s.Size, s.Rels[i].Arity) {
		image := make([]int, len(tuple))
		for j, x := range tuple {
			image[j] = perm[x]
		}
		is, _ := shape.Has(s, name, tuple)
		wantHas(t, r, name, image, is, api.OK)
	}
}

func TestPermuteTexts(t *testing.T) {
	s, e := shape.Permute(parse(t, "3; E/2 0,1 1,2; P/1 2; Q/0 (); N/0"), []int{1, 2, 0})
	wantStructure(t, "Permute", s, e, parse(t, "3; E/2 1,2 2,0; P/1 0; Q/0 (); N/0"), api.OK)
	s, e = shape.Permute(parse(t, "1; P/3 0,0,0"), []int{0})
	wantStructure(t, "Permute", s, e, parse(t, "1; P/3 0,0,0"), api.OK)
	perm := make([]int, 64)
	for i := range perm {
		perm[i] = 63 - i
	}
	s, e = shape.Permute(parse(t, "64; E/2 0,1 62,0"), perm)
	wantStructure(t, "Permute", s, e, parse(t, "64; E/2 1,63 63,62"), api.OK)
}

func TestPermuteErrArg(t *testing.T) {
	s := parse(t, "3; E/2 0,1 1,2; P/1 2")
	for _, perm := range [][]int{
		nil, {}, {0}, {0, 1}, {0, 1, 2, 3}, {0, 1, 2, 0}, {0, 1, 2, 2}, {0, 0, 1}, {1, 1, 1}, {0, 1, 1}, {2, 1, 2},
		{1, 2, 3}, {0, 1, 3}, {-1, 0, 1}, {0, 1, -1}, {0, 1, math.MaxInt}, {math.MinInt, 1, 2}, make([]int, 1000),
	} {
		r, e := shape.Permute(s, perm)
		wantStructure(t, "Permute", r, e, api.Structure{}, api.ErrArg)
	}
}

// TestKeepSelects is promise P1.5: for every choice and order of the relations of random structures.
func TestKeepSelects(t *testing.T) {
	random := rand.New(rand.NewSource(3))
	for range 20 {
		s := randomStructure(random)
		for _, order := range permutations(len(s.Rels)) {
			for k := range len(order) + 1 {
				want := api.Structure{Size: s.Size}
				var symbols []api.Symbol
				for _, i := range order[:k] {
					want.Rels = append(want.Rels, s.Rels[i])
					symbols = append(symbols, api.Symbol{Name: s.Rels[i].Name, Arity: s.Rels[i].Arity})
				}
				r, e := shape.Keep(s, symbols)
				wantStructure(t, "Keep", r, e, want, api.OK)
			}
		}
	}
}

func TestKeepErrors(t *testing.T) {
	s := parse(t, "3; E/2 0,1 1,2; P/1 2; Q/0 ()")
	cases := []struct {
		symbols []api.Symbol
		want    api.Errno
	}{
		{[]api.Symbol{{Name: "F", Arity: 2}}, api.ErrName},
		{[]api.Symbol{{Name: "e", Arity: 2}}, api.ErrName},
		{[]api.Symbol{{Name: "", Arity: 0}}, api.ErrName},
		{[]api.Symbol{{Name: "E", Arity: 1}}, api.ErrName},
		{[]api.Symbol{{Name: "E", Arity: 2}, {Name: "P", Arity: 0}}, api.ErrName},
		{[]api.Symbol{{Name: "E", Arity: -1}}, api.ErrName},
		{[]api.Symbol{{Name: "E", Arity: 2}, {Name: "E", Arity: 1}}, api.ErrName},
		{[]api.Symbol{{Name: "E", Arity: 2}, {Name: "E", Arity: 2}}, api.ErrArg},
		{[]api.Symbol{{Name: "P", Arity: 1}, {Name: "E", Arity: 2}, {Name: "P", Arity: 1}}, api.ErrArg},
		{[]api.Symbol{{Name: "Q", Arity: 0}, {Name: "Q", Arity: 0}, {Name: "Q", Arity: 0}}, api.ErrArg},
		{[]api.Symbol{{Name: "Q", Arity: 0}, {Name: "Q", Arity: 0}, {Name: "F", Arity: 0}}, api.ErrName},
	}
	for _, c := range cases {
		r, e := shape.Keep(s, c.symbols)
		wantStructure(t, "Keep", r, e, api.Structure{}, c.want)
	}
}
