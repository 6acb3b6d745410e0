package shape_test

import (
	"math/rand"
	"strconv"
	"testing"

	"paraphrast/api"
	"paraphrast/shape"
)

// parse returns the structure of a text that must be a textual form.
func parse(t *testing.T, text string) api.Structure {
	t.Helper()
	s, e := shape.Parse(text)
	if e != api.OK {
		t.Fatalf("Parse(%q) is error %d", text, e)
	}
	return s
}

// write is the textual form as the chapter describes it, written apart from the package.
func write(s api.Structure) string {
	text := strconv.Itoa(s.Size)
	for _, r := range s.Rels {
		text += "; " + r.Name + "/" + strconv.Itoa(r.Arity)
		for _, tuple := range r.Tuples {
			text += " " + writeTuple(tuple)
		}
	}
	return text
}

func writeTuple(tuple []int) string {
	if len(tuple) == 0 {
		return "()"
	}
	text := strconv.Itoa(tuple[0])
	for _, x := range tuple[1:] {
		text += "," + strconv.Itoa(x)
	}
	return text
}

// allTuples lists the tuples of k elements out of n in lexicographic order, by counting.
func allTuples(n, k int) [][]int {
	tuples := [][]int{{}}
	for range k {
		var longer [][]int
		for _, t := range tuples {
			for x := range n {
				longer = append(longer, append(append([]int{}, t...), x))
			}
		}
		tuples = longer
	}
	return tuples
}

// sameInts takes a nil slice and an empty one as the same, as rule R4 does.
func sameInts(a, b []int) bool {
	if len(a) != len(b) {
		return false
	}
	for i := range a {
		if a[i] != b[i] {
			return false
		}
	}
	return true
}

func sameRel(a, b api.Rel) bool {
	if a.Name != b.Name || a.Arity != b.Arity || len(a.Tuples) != len(b.Tuples) {
		return false
	}
	for i := range a.Tuples {
		if !sameInts(a.Tuples[i], b.Tuples[i]) {
			return false
		}
	}
	return true
}

func same(a, b api.Structure) bool {
	if a.Size != b.Size || len(a.Rels) != len(b.Rels) {
		return false
	}
	for i := range a.Rels {
		if !sameRel(a.Rels[i], b.Rels[i]) {
			return false
		}
	}
	return true
}

func clone(s api.Structure) api.Structure {
	c := api.Structure{Size: s.Size}
	for _, r := range s.Rels {
		d := api.Rel{Name: r.Name, Arity: r.Arity}
		for _, t := range r.Tuples {
			d.Tuples = append(d.Tuples, append([]int{}, t...))
		}
		c.Rels = append(c.Rels, d)
	}
	return c
}

// wantStructure fails unless s and e are what a call should return; with an error that is the zero structure.
func wantStructure(t *testing.T, call string, s api.Structure, e api.Errno, want api.Structure, wantErr api.Errno) {
	t.Helper()
	if wantErr != api.OK {
		want = api.Structure{}
	}
	if e != wantErr || !same(s, want) {
		t.Errorf("%s is %v, error %d, instead of %v, error %d", call, s, e, want, wantErr)
	}
}

// randomStructure makes a valid structure with the relations Z/0, P/1, E/2 and T/3.
func randomStructure(r *rand.Rand) api.Structure {
	s := api.Structure{Size: 1 + r.Intn(5)}
	for k, name := range []string{"Z", "P", "E", "T"} {
		rel := api.Rel{Name: name, Arity: k}
		for _, t := range allTuples(s.Size, k) {
			if r.Intn(2) == 0 {
				rel.Tuples = append(rel.Tuples, t)
			}
		}
		s.Rels = append(s.Rels, rel)
	}
	return s
}

// invalid lists structures that break one rule of validity each.
func invalid() []api.Structure {
	return []api.Structure{
		{},
		{Size: -1},
		{Size: 65},
		{Size: 2, Rels: []api.Rel{{Name: "and"}}},
		{Size: 2, Rels: []api.Rel{{Name: "E", Arity: 1}, {Name: "E", Arity: 2}}},
		{Size: 2, Rels: []api.Rel{{Name: "E", Arity: -1}}},
		{Size: 1, Rels: []api.Rel{{Name: "E", Arity: 13}}},
		{Size: 64, Rels: []api.Rel{{Name: "E", Arity: 3}}},
		{Size: 2, Rels: []api.Rel{{Name: "E", Arity: 1, Tuples: [][]int{{2}}}}},
		{Size: 2, Rels: []api.Rel{{Name: "E", Arity: 1, Tuples: [][]int{{0, 1}}}}},
		{Size: 2, Rels: []api.Rel{{Name: "E", Arity: 1, Tuples: [][]int{{1}, {0}}}}},
	}
}
