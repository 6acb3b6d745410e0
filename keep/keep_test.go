package keep_test

import (
	"slices"
	"strings"
	"testing"

	"paraphrast/api"
	"paraphrast/keep"
	"paraphrast/rules"
)

func TestExample(t *testing.T) {
	k := keeper(t, paths, "3; E/2 0,1 1,2")
	is(t, k, "3; E/2 0,1 1,2; P/2 0,1 0,2 1,2")
	put(t, k, "E 0,1", false, "", "E 0,1; P 0,1; P 0,2")
	is(t, k, "3; E/2 1,2; P/2 1,2")
	put(t, k, "E 2,0", true, "E 2,0; P 1,0; P 2,0", "")
	is(t, k, "3; E/2 1,2 2,0; P/2 1,0 1,2 2,0")
}

// Facts of a cycle follow from each other; they must go when nothing else supports them.
func TestPutInCycles(t *testing.T) {
	k := keeper(t, "R(x) :- S(x). R(y) :- R(x), E(x y).", "4; S/1; E/2 0,1 1,2 2,1 2,3 3,3")
	put(t, k, "S 0", true, "S 0; R 0; R 1; R 2; R 3", "")
	put(t, k, "E 0,1", false, "", "E 0,1; R 1; R 2; R 3")
	put(t, k, "S 3", true, "S 3; R 3", "")
	put(t, k, "S 2", true, "S 2; R 1; R 2", "")
	put(t, k, "S 3", false, "", "S 3")
	put(t, k, "E 2,3", false, "", "E 2,3; R 3")
	put(t, k, "E 1,2", false, "", "E 1,2")
	put(t, k, "S 2", false, "", "S 2; R 1; R 2")
	is(t, k, "4; S/1 0; E/2 2,1 3,3; R/1 0")
}

// A fact stays as long as it has another derivation, also one from facts that have to be derived again themselves.
func TestPutBesideOtherDerivations(t *testing.T) {
	k := keeper(t, paths, "4; E/2 0,1 0,2 1,3 2,3 3,1")
	put(t, k, "E 0,1", false, "", "E 0,1")
	put(t, k, "E 1,3", false, "", "E 1,3; P 1,1; P 1,3; P 3,3")
	put(t, k, "E 0,1", true, "E 0,1", "")
	put(t, k, "E 2,3", false, "", "E 2,3; P 0,3; P 2,1; P 2,3")
	is(t, k, "4; E/2 0,1 0,2 3,1; P/2 0,1 0,2 3,1")
}

// Insertions remove facts, and removals add facts, of relations that use others negatively.
func TestPutBelowNegations(t *testing.T) {
	k := keeper(t, paths+" Q(x) :- not P(x x). S() :- Q(x), not U(x). W(x) :- U(x), not S().", "2; E/2 0,1; U/1 0 1")
	is(t, k, "2; E/2 0,1; U/1 0 1; P/2 0,1; Q/1 0 1; S/0; W/1 0 1")
	put(t, k, "U 1", false, "S ", "U 1; W 0; W 1")
	put(t, k, "E 1,0", true, "E 1,0; P 0,0; P 1,0; P 1,1; W 0", "Q 0; Q 1; S ")
	put(t, k, "E 0,1", false, "Q 0; Q 1; S ", "E 0,1; P 0,0; P 0,1; P 1,1; W 0")
	put(t, k, "U 1", true, "U 1; W 0; W 1", "S ")
	is(t, k, "2; E/2 1,0; U/1 0 1; P/2 1,0; Q/1 0 1; S/0; W/1 0 1")
}

// What a removal takes from one level must be there for the next one as it is in the end.
func TestPutWithSeveralChangesInARule(t *testing.T) {
	k := keeper(t, "A(x) :- U(x). B(x) :- U(x), V(x). C(x) :- A(x), not B(x). C(x) :- B(x), not A(x). D(x) :- C(x). D(x) :- A(x), B(x).", "1; U/1; V/1")
	put(t, k, "V 0", true, "V 0", "")
	put(t, k, "U 0", true, "U 0; A 0; B 0; D 0", "")
	put(t, k, "V 0", false, "C 0", "V 0; B 0")
	put(t, k, "U 0", false, "", "U 0; A 0; C 0; D 0")
}

// A variable that occurs twice in a condition or in a head stands for equal components only.
func TestPutWithRepeatedVariables(t *testing.T) {
	k := keeper(t, "L(x) :- E(x x). D(x x) :- U(x). M(x y) :- E(x y), not E(y x). X(x) :- D(x y), y < x.", "2; E/2 0,0; U/1 0")
	is(t, k, "2; E/2 0,0; U/1 0; D/2 0,0; L/1 0; M/2; X/1")
	put(t, k, "E 0,1", true, "E 0,1; M 0,1", "")
	put(t, k, "E 1,1", true, "E 1,1; L 1", "")
	put(t, k, "E 1,0", true, "E 1,0", "M 0,1")
	put(t, k, "E 0,0", false, "", "E 0,0; L 0")
	put(t, k, "E 0,1", false, "M 1,0", "E 0,1")
	put(t, k, "U 1", true, "U 1; D 1,1", "")
	is(t, k, "2; E/2 1,0 1,1; U/1 0 1; D/2 0,0 1,1; L/1 1; M/2 1,0; X/1")
}

// The relations of the structure come first, as they are there, then the defined ones, rising by name.
func TestPutOrdersFacts(t *testing.T) {
	k := keeper(t, "b(x y) :- U(y), x = x. B(y x) :- b(x y). a() :- U(x). A1(x) :- not U(x).", "3; Z/0; U/1; A/1 1")
	is(t, k, "3; Z/0; U/1; A/1 1; A1/1 0 1 2; B/2; a/0; b/2")
	put(t, k, "U 1", true, "U 1; B 1,0; B 1,1; B 1,2; a ; b 0,1; b 1,1; b 2,1", "A1 1")
	put(t, k, "U 0", true, "U 0; B 0,0; B 0,1; B 0,2; b 0,0; b 1,0; b 2,0", "A1 0")
	put(t, k, "U 1", false, "A1 1", "U 1; B 1,0; B 1,1; B 1,2; b 0,1; b 1,1; b 2,1")
	put(t, k, "A 1", false, "", "A 1")
	put(t, k, "Z ", true, "Z ", "")
}

func TestPutWithoutChange(t *testing.T) {
	k := keeper(t, paths, "3; E/2 0,1 1,2")
	put(t, k, "E 0,1", true, "", "")
	put(t, k, "E 2,2", false, "", "")
	is(t, k, "3; E/2 0,1 1,2; P/2 0,1 0,2 1,2")
	undo(t, k, api.OK)
	undo(t, k, api.OK)
	undo(t, k, api.ErrNone)
	is(t, k, "3; E/2 0,1 1,2; P/2 0,1 0,2 1,2")
}

func TestPutErrors(t *testing.T) {
	for _, c := range []struct {
		name  string
		tuple []int
		want  api.Errno
	}{
		{"P", []int{0, 1}, api.ErrName},
		{"P", []int{0, 7}, api.ErrName},
		{"P", []int{0}, api.ErrName},
		{"F", []int{0, 1}, api.ErrName},
		{"", nil, api.ErrName},
		{"", []int{0, 1}, api.ErrName},
		{"E", nil, api.ErrName},
		{"E", []int{0}, api.ErrName},
		{"E", []int{0, 1, 2}, api.ErrName},
		{"E", make([]int, 1000), api.ErrName},
		{"E", []int{7, 7, 7}, api.ErrName},
		{"Z", []int{0}, api.ErrName},
		{"E", []int{0, 3}, api.ErrArg},
		{"E", []int{3, 0}, api.ErrArg},
		{"E", []int{-1, 0}, api.ErrArg},
		{"E", []int{0, -1 << 63}, api.ErrArg},
		{"E", []int{1<<63 - 1, 0}, api.ErrArg},
		{"A", []int{3}, api.ErrArg},
	} {
		k := keeper(t, paths, "3; E/2 0,1 1,2; Z/0; A/1")
		for _, in := range []bool{true, false} {
			if a, r, e := k.Put(c.name, c.tuple, in); e != c.want || len(a) != 0 || len(r) != 0 {
				t.Errorf("Put(%q, %v, %v) is %v, %v, error %d; want error %d", c.name, c.tuple, in, a, r, e, c.want)
			}
		}
		is(t, k, "3; E/2 0,1 1,2; Z/0; A/1; P/2 0,1 0,2 1,2")
		undo(t, k, api.ErrNone)
	}
}

func TestCount(t *testing.T) {
	k := keeper(t, paths+" P(x y) :- E(x y). Q(x) :- P(x y), not P(y y). Q(x) :- x = x, U(z), not z < x. N() :- not U(x). H(x x).", "4; E/2 0,1 0,2 1,3 2,3; U/1 2 3")
	count(t, k, "P 0,1", 2)
	count(t, k, "P 0,3", 2)
	count(t, k, "P 1,3", 2)
	count(t, k, "P 3,0", 0)
	count(t, k, "P 0,0", 0)
	count(t, k, "Q 0", 3+2)
	count(t, k, "Q 1", 1+2)
	count(t, k, "Q 3", 0+1)
	count(t, k, "N ", 2)
	count(t, k, "H 1,1", 1)
	count(t, k, "H 1,2", 0)
	put(t, k, "E 3,3", true, "E 3,3; P 3,3", "")
	count(t, k, "P 3,3", 3)
	count(t, k, "Q 1", 0+2)
}

// Counts are those of derivations in Now, where a fact may be derived from itself.
func TestCountAfterChanges(t *testing.T) {
	k := keeper(t, "R(x) :- S(x). R(y) :- R(x), E(x y).", "3; S/1 0; E/2 0,1 1,1 2,2")
	count(t, k, "R 0", 1)
	count(t, k, "R 1", 2)
	count(t, k, "R 2", 0)
	put(t, k, "E 1,0", true, "E 1,0", "")
	count(t, k, "R 0", 2)
	put(t, k, "S 0", false, "", "S 0; R 0; R 1")
	count(t, k, "R 0", 0)
	count(t, k, "R 1", 0)
	put(t, k, "S 2", true, "S 2; R 2", "")
	count(t, k, "R 2", 2)
	undo(t, k, api.OK)
	count(t, k, "R 2", 0)
}

func TestCountOfManyDerivations(t *testing.T) {
	rule := "R() :- a = b, c = d, e < f, not g = h, x = x, y = y, z = z, w = w."
	k := keeper(t, strings.Repeat(rule, 60), "2; A/0")
	count(t, k, "R ", 60*(2*2*1*2*16))
	k = keeper(t, "D(x y).", "64; U/1 0")
	count(t, k, "D 63,0", 1)
	k = keeper(t, "D(x y z) :- not x = y, U(w).", "16; U/1 0 3")
	count(t, k, "D 15,0,15", 2)
}

func TestCountErrors(t *testing.T) {
	k := keeper(t, paths+" N() :- E(x y).", "3; E/2 0,1 1,2")
	for _, c := range []struct {
		name  string
		tuple []int
		want  api.Errno
	}{
		{"E", []int{0, 1}, api.ErrName},
		{"", nil, api.ErrName},
		{"", []int{0, 1}, api.ErrName},
		{"F", []int{0, 1}, api.ErrName},
		{"P", []int{0}, api.ErrName},
		{"P", []int{0, 1, 2}, api.ErrName},
		{"P", nil, api.ErrName},
		{"P", make([]int, 1000), api.ErrName},
		{"N", []int{0}, api.ErrName},
		{"P", []int{0, 3}, api.OK},
		{"P", []int{-1, 0}, api.OK},
		{"P", []int{1<<63 - 1, -1 << 63}, api.OK},
	} {
		if n, e := k.Count(c.name, c.tuple); n != 0 || e != c.want {
			t.Errorf("Count(%q, %v) is %d, error %d; want 0, error %d", c.name, c.tuple, n, e, c.want)
		}
	}
}

func TestUndo(t *testing.T) {
	k := keeper(t, paths, "3; E/2 0,1 1,2")
	undo(t, k, api.ErrNone)
	put(t, k, "E 0,1", false, "", "E 0,1; P 0,1; P 0,2")
	put(t, k, "E 2,0", true, "E 2,0; P 1,0; P 2,0", "")
	undo(t, k, api.OK)
	is(t, k, "3; E/2 1,2; P/2 1,2")
	put(t, k, "E 1,2", true, "", "")
	put(t, k, "E 1,2", false, "", "E 1,2; P 1,2")
	undo(t, k, api.OK)
	undo(t, k, api.OK)
	is(t, k, "3; E/2 1,2; P/2 1,2")
	undo(t, k, api.OK)
	is(t, k, "3; E/2 0,1 1,2; P/2 0,1 0,2 1,2")
	undo(t, k, api.ErrNone)
	is(t, k, "3; E/2 0,1 1,2; P/2 0,1 0,2 1,2")
}

func TestClone(t *testing.T) {
	k := keeper(t, paths, "3; E/2 0,1 1,2")
	put(t, k, "E 0,1", false, "", "E 0,1; P 0,1; P 0,2")
	c := k.Clone()
	put(t, c, "E 1,2", false, "", "E 1,2; P 1,2")
	is(t, k, "3; E/2 1,2; P/2 1,2")
	put(t, k, "E 2,1", true, "E 2,1; P 1,1; P 2,1; P 2,2", "")
	is(t, c, "3; E/2; P/2")
	d := c.Clone()
	undo(t, c, api.OK)
	undo(t, c, api.OK)
	undo(t, c, api.ErrNone)
	is(t, c, "3; E/2 0,1 1,2; P/2 0,1 0,2 1,2")
	undo(t, k, api.OK)
	is(t, k, "3; E/2 1,2; P/2 1,2")
	put(t, k, "E 0,2", true, "E 0,2; P 0,2", "")
	undo(t, d, api.OK)
	is(t, d, "3; E/2 1,2; P/2 1,2")
	undo(t, d, api.OK)
	undo(t, d, api.ErrNone)
	count(t, d, "P 0,2", 1)
}

func TestNewWithoutRulesOrRelations(t *testing.T) {
	k := keeper(t, "", "2; E/2 0,1")
	is(t, k, "2; E/2 0,1")
	put(t, k, "E 1,1", true, "E 1,1", "")
	if n, e := k.Count("E", []int{0, 1}); n != 0 || e != api.ErrName {
		t.Errorf("Count is %d, error %d", n, e)
	}
	k = keeper(t, "D(x y). N() :- not D(x x).", "2")
	is(t, k, "2; D/2 0,0 0,1 1,0 1,1; N/0")
	count(t, k, "D 0,1", 1)
	count(t, k, "N ", 0)
	undo(t, k, api.ErrNone)
	k = keeper(t, "", "1")
	is(t, k, "1")
	if _, _, e := k.Put("E", nil, true); e != api.ErrName {
		t.Errorf("Put without relations is error %d", e)
	}
}

func TestNewErrors(t *testing.T) {
	many := "A/0; B/0; C/0; D/0; E/2; F/0; G/0"
	for _, c := range []struct {
		rules string
		s     string
		want  api.Errno
	}{
		{paths, "3; E/3", api.ErrName},
		{paths, "3; F/2", api.ErrName},
		{paths, "3; E/2; P/2", api.ErrName},
		{paths, "3; E/2; P/1", api.ErrName},
		{paths, "3; " + many, api.OK},
		{paths, "3; " + many + "; H/0", api.ErrSize},
		{paths, "40; E/2", api.OK},
		{paths, "41; E/2", api.ErrSize},
		{"D(x y).", "64", api.OK},
		{"D(x y z).", "16", api.OK},
		{"D(x y z).", "17", api.ErrSize},
	} {
		k, e := keep.New(program(t, c.rules), structure(t, c.s))
		if e != c.want || (k == nil) != (e != api.OK) {
			t.Errorf("New(%s, %s) is %v, error %d; want error %d", c.rules, c.s, k, e, c.want)
		}
	}
	s := structure(t, "2; E/2")
	unstratified := []api.Rule{{Head: api.Atom{Name: "P"}, Body: []api.Cond{{Neg: true, Atom: api.Atom{Name: "P"}}}}}
	for _, l := range [][]api.Rule{unstratified, {{}}, slices.Repeat(program(t, "P()."), 61)} {
		if k, e := keep.New(l, s); k != nil || e != api.ErrForm {
			t.Errorf("New of a program that is not valid is %v, error %d", k, e)
		}
	}
	bad := api.Structure{Size: 2, Rels: []api.Rel{{Name: "E", Arity: 2, Tuples: [][]int{{0, 1}, {0, 1}}}}}
	for _, s := range []api.Structure{{}, {Size: 65}, {Size: -1}, bad} {
		if k, e := keep.New(program(t, paths), s); k != nil || e != api.ErrForm {
			t.Errorf("New of a structure that is not valid is %v, error %d", k, e)
		}
	}
}

// The greatest structures that paths have room for, with a change in the middle.
func TestLargeStructures(t *testing.T) {
	s := api.Structure{Size: 40, Rels: []api.Rel{{Name: "E", Arity: 2}}}
	for x := range 39 {
		s.Rels[0].Tuples = append(s.Rels[0].Tuples, []int{x, x + 1})
	}
	l := program(t, paths+" T(x y) :- T(x z), T(z y). T(x y) :- E(x y). N(x y) :- not P(x y).")
	k, e := keep.New(l, s)
	if e != api.OK {
		t.Fatalf("New is error %d", e)
	}
	for range 20 {
		for _, in := range []bool{false, true} {
			came, went, e := k.Put("E", []int{19, 20}, in)
			if n := 1 + 3*20*20; len(came)+len(went) != n || e != api.OK {
				t.Fatalf("Put changes %d facts, error %d; want %d", len(came)+len(went), e, n)
			}
		}
	}
	if want, _ := rules.Run(l, s); !equal(k.Now(), want) {
		t.Error("Now is not the result of Run")
	}
}
