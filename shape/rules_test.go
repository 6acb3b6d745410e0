package shape_test

import (
	"math"
	"testing"

	"paraphrast/api"
	"paraphrast/shape"
)

// oddStructures lists structures of all sorts: rule R1 wants an answer for each of them.
func oddStructures() []api.Structure {
	l := invalid()
	for _, n := range []int{math.MinInt, -1, 0, 1, 64, 65, math.MaxInt} {
		for _, k := range []int{math.MinInt, -1, 0, 1, 12, 13, math.MaxInt} {
			for _, tuples := range [][][]int{nil, {nil}, {{}, nil}, {{0}}, {{math.MaxInt}, {math.MinInt}}, make([][]int, 3)} {
				l = append(l, api.Structure{Size: n, Rels: []api.Rel{{Name: "E", Arity: k, Tuples: tuples}}})
			}
		}
	}
	return append(l, api.Structure{Size: 3, Rels: make([]api.Rel, 100)})
}

// TestEveryCallReturns is rule R1, and rule R3 for the structures that are not valid.
func TestEveryCallReturns(t *testing.T) {
	lists := [][]int{nil, {}, {0}, {-1}, {math.MaxInt, math.MinInt}, make([]int, 12), make([]int, 13), make([]int, 1000)}
	for _, s := range oddStructures() {
		shape.Symbols(s)
		shape.Text(s)
		for _, list := range lists {
			valid := shape.Valid(s)
			has, e1 := shape.Has(s, "E", list)
			put, e2 := shape.Put(s, "E", list, true)
			permuted, e3 := shape.Permute(s, list)
			kept, e4 := shape.Keep(s, []api.Symbol{{Name: "E", Arity: len(list)}, {Name: "\xff", Arity: -1}})
			if !valid && (e1 != api.ErrForm || e2 != api.ErrForm || e3 != api.ErrForm || e4 != api.ErrForm) {
				t.Errorf("%v is not valid, but the errors are %d %d %d %d", s, e1, e2, e3, e4)
			}
			for i, r := range []api.Structure{put, permuted, kept} {
				if []api.Errno{e2, e3, e4}[i] != api.OK && !same(r, api.Structure{}) {
					t.Errorf("call %d with an error returns %v", i, r)
				}
			}
			if has && e1 != api.OK {
				t.Errorf("Has(%v, E, %v) is true, error %d", s, list, e1)
			}
		}
	}
}

// roomy returns a structure whose slices have room behind their ends, filled with marks.
func roomy() (api.Structure, func() bool) {
	tuples := make([][]int, 4, 8)
	backs := make([][]int, 4)
	for i, x := range [][]int{{0, 1}, {1, 0}, {1, 2}, {2, 2}} {
		backs[i] = []int{x[0], x[1], 77, 77}
		tuples[i] = backs[i][:2]
	}
	rels := make([]api.Rel, 2, 4)
	rels[0] = api.Rel{Name: "E", Arity: 2, Tuples: tuples}
	rels[1] = api.Rel{Name: "P", Arity: 1, Tuples: [][]int{{1}}}
	untouched := func() bool {
		for _, b := range backs {
			if b[2] != 77 || b[3] != 77 {
				return false
			}
		}
		for _, x := range tuples[4:8] {
			if x != nil {
				return false
			}
		}
		return rels[2:4][0].Name == "" && rels[2:4][1].Name == ""
	}
	return api.Structure{Size: 3, Rels: rels}, untouched
}

// makers lists the calls that return a structure made of s.
func makers() map[string]func(s api.Structure) api.Structure {
	put := func(name string, tuple []int, is bool) func(api.Structure) api.Structure {
		return func(s api.Structure) api.Structure {
			r, _ := shape.Put(s, name, tuple, is)
			return r
		}
	}
	return map[string]func(s api.Structure) api.Structure{
		"put first":    put("E", []int{0, 0}, true),
		"put middle":   put("E", []int{1, 1}, true),
		"put there":    put("E", []int{1, 2}, true),
		"take first":   put("E", []int{0, 1}, false),
		"take last":    put("E", []int{2, 2}, false),
		"take nothing": put("E", []int{0, 0}, false),
		"put other":    put("P", []int{2}, true),
		"permute": func(s api.Structure) api.Structure {
			r, _ := shape.Permute(s, []int{2, 0, 1})
			return r
		},
		"permute to itself": func(s api.Structure) api.Structure {
			r, _ := shape.Permute(s, []int{0, 1, 2})
			return r
		},
		"keep all": func(s api.Structure) api.Structure {
			r, _ := shape.Keep(s, []api.Symbol{{Name: "E", Arity: 2}, {Name: "P", Arity: 1}})
			return r
		},
		"keep one": func(s api.Structure) api.Structure {
			r, _ := shape.Keep(s, []api.Symbol{{Name: "E", Arity: 2}})
			return r
		},
		"parse": func(s api.Structure) api.Structure {
			text, _ := shape.Text(s)
			r, _ := shape.Parse(text)
			return r
		},
	}
}

// scribble overwrites all memory of s, and the room behind the ends of its slices.
func scribble(s api.Structure) {
	for i := range s.Rels {
		for j := range s.Rels[i].Tuples {
			tuple := s.Rels[i].Tuples[j]
			tuple = tuple[:cap(tuple)]
			for k := range tuple {
				tuple[k] = 99
			}
		}
		tuples := s.Rels[i].Tuples
		tuples = tuples[:cap(tuples)]
		for j := range tuples {
			tuples[j] = []int{98}
		}
	}
	rels := s.Rels[:cap(s.Rels)]
	for i := range rels {
		rels[i] = api.Rel{Name: "scribbled"}
	}
}

// TestArgumentsStay is rule R5: a call changes nothing of its arguments, and its result shares no memory with them.
func TestArgumentsStay(t *testing.T) {
	for name, call := range makers() {
		s, untouched := roomy()
		before := clone(s)
		r := call(s)
		if !shape.Valid(r) {
			t.Errorf("%s returns %v", name, r)
		}
		scribble(r)
		if !same(s, before) || !untouched() {
			t.Errorf("%s and writing to its result change the argument to %v", name, s)
		}
	}
	for name, call := range makers() {
		s, _ := roomy()
		r := call(s)
		result := clone(r)
		scribble(s)
		if !same(r, result) {
			t.Errorf("%s returns what changes with its argument: %v", name, r)
		}
	}
}

// TestResultsShareNothingWithin appends to each slice of a result: no other part of it may change.
func TestResultsShareNothingWithin(t *testing.T) {
	for name, call := range makers() {
		s, _ := roomy()
		r := call(s)
		before := clone(r)
		for _, rel := range r.Rels {
			for _, tuple := range rel.Tuples {
				for range 20 {
					tuple = append(tuple, 99)
				}
			}
			_ = append(rel.Tuples, []int{99})
		}
		if !same(r, before) {
			t.Errorf("parts of the result of %s share memory: %v", name, r)
		}
	}
}

func TestListsStay(t *testing.T) {
	s := parse(t, "3; E/2 0,1 1,2; P/1 2")
	tuple := []int{2, 0, 77}
	r, _ := shape.Put(s, "E", tuple[:2], true)
	if !sameInts(tuple, []int{2, 0, 77}) {
		t.Errorf("Put changes the tuple to %v", tuple)
	}
	tuple[0], tuple[1] = 9, 9
	wantStructure(t, "Put", r, api.OK, parse(t, "3; E/2 0,1 1,2 2,0; P/1 2"), api.OK)
	perm := []int{2, 0, 1}
	shape.Permute(s, perm)
	if !sameInts(perm, []int{2, 0, 1}) {
		t.Errorf("Permute changes the permutation to %v", perm)
	}
	tuple = []int{2, 1}
	shape.Rank(3, tuple)
	shape.Has(s, "E", tuple)
	if !sameInts(tuple, []int{2, 1}) {
		t.Errorf("Rank or Has changes the tuple to %v", tuple)
	}
	symbols := []api.Symbol{{Name: "P", Arity: 1}, {Name: "E", Arity: 2}}
	shape.Keep(s, symbols)
	shape.Make(3, symbols)
	if symbols[0] != (api.Symbol{Name: "P", Arity: 1}) || symbols[1] != (api.Symbol{Name: "E", Arity: 2}) {
		t.Errorf("Keep or Make changes the symbols to %v", symbols)
	}
}

// TestSameCallsSameResults is rule R6, and rule R5 between the results of two calls.
func TestSameCallsSameResults(t *testing.T) {
	for name, call := range makers() {
		s, _ := roomy()
		first := call(s)
		want := clone(first)
		for _, other := range makers() {
			other(s)
		}
		scribble(first)
		if again := call(clone(s)); !same(again, want) {
			t.Errorf("%s returns %v, and then %v", name, want, again)
		}
	}
	tuple, _ := shape.Tuple(3, 2, 5)
	tuple[0], tuple[1] = 9, 9
	if tuple, e := shape.Tuple(3, 2, 5); !sameInts(tuple, []int{1, 2}) || e != api.OK {
		t.Errorf("Tuple(3, 2, 5) is %v, error %d, the second time", tuple, e)
	}
	s, _ := roomy()
	symbols := shape.Symbols(s)
	symbols[0].Name = "changed"
	if l := shape.Symbols(s); l[0] != (api.Symbol{Name: "E", Arity: 2}) {
		t.Errorf("Symbols is %v the second time", l)
	}
	made, _ := shape.Make(3, []api.Symbol{{Name: "E", Arity: 2}})
	scribble(made)
	made, e := shape.Make(3, []api.Symbol{{Name: "E", Arity: 2}})
	wantStructure(t, "Make", made, e, parse(t, "3; E/2"), api.OK)
}

// TestNilAndEmptySlices is rule R4.
func TestNilAndEmptySlices(t *testing.T) {
	nils := api.Structure{Size: 2, Rels: []api.Rel{{Name: "A", Tuples: [][]int{nil}}, {Name: "B"}}}
	empties := api.Structure{Size: 2, Rels: []api.Rel{{Name: "A", Tuples: [][]int{{}}}, {Name: "B", Tuples: [][]int{}}}}
	want := "2; A/0 (); B/0"
	for _, s := range []api.Structure{nils, empties} {
		if text, e := shape.Text(s); text != want || e != api.OK {
			t.Errorf("the text is %q, error %d", text, e)
		}
		for _, tuple := range [][]int{nil, {}} {
			wantHas(t, s, "A", tuple, true, api.OK)
			wantHas(t, s, "B", tuple, false, api.OK)
			r, e := shape.Put(s, "B", tuple, true)
			wantStructure(t, "Put", r, e, parse(t, "2; A/0 (); B/0 ()"), api.OK)
			r, e = shape.Put(s, "A", tuple, false)
			wantStructure(t, "Put", r, e, parse(t, "2; A/0; B/0"), api.OK)
			if rank, e := shape.Rank(2, tuple); rank != 0 || e != api.OK {
				t.Errorf("the rank of the empty tuple is %d, error %d", rank, e)
			}
		}
		r, e := shape.Permute(s, []int{1, 0})
		wantStructure(t, "Permute", r, e, s, api.OK)
		for _, symbols := range [][]api.Symbol{nil, {}} {
			r, e := shape.Keep(s, symbols)
			wantStructure(t, "Keep", r, e, api.Structure{Size: 2}, api.OK)
			r, e = shape.Make(2, symbols)
			wantStructure(t, "Make", r, e, api.Structure{Size: 2, Rels: []api.Rel{}}, api.OK)
		}
	}
}
