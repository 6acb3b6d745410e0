package rules_test

import (
	"slices"
	"testing"

	"paraphrast/api"
	"paraphrast/rules"
	"paraphrast/shape"
)

// checkRun compares Run of a program with its meaning. It returns the facts.
func checkRun(t *testing.T, l []api.Rule, s api.Structure) world {
	t.Helper()
	got := run(t, l, s)
	w := meaning(l, s)
	if !shape.Valid(got) || got.Size != s.Size || len(got.Rels) != len(s.Rels)+len(defined(l)) {
		t.Fatalf("Run(%s, %s) is %v", write(l), writeStructure(s), got)
	}
	for i, r := range s.Rels {
		if o := got.Rels[i]; o.Name != r.Name || o.Arity != r.Arity || !equalTuples(o.Tuples, r.Tuples) {
			t.Errorf("Run(%s, %s) has %v instead of %v", write(l), writeStructure(s), o, r)
		}
	}
	for i, name := range defined(l) {
		r := got.Rels[len(s.Rels)+i]
		if r.Name != name || r.Arity != arity(l, name) {
			t.Fatalf("Run(%s, %s) has %s/%d", write(l), writeStructure(s), r.Name, r.Arity)
		}
		for _, tuple := range tuples(s.Size, r.Arity) {
			is := slices.ContainsFunc(r.Tuples, func(o []int) bool { return slices.Equal(o, tuple) })
			if is != w[key(name, tuple)] {
				t.Errorf("Run(%s, %s) says that %s has %v: %v", write(l), writeStructure(s), name, tuple, is)
			}
		}
	}
	return w
}

func TestRun(t *testing.T) {
	for _, c := range []struct{ program, structure, want string }{
		{"", "2; P/1 1", "2; P/1 1"},
		{"P(x y) :- E(x y). P(x y) :- E(x z), P(z y). Q(x) :- not P(x x).", "3; E/2 0,1 1,2", "3; E/2 0,1 1,2; P/2 0,1 0,2 1,2; Q/1 0 1 2"},
		{"P(x y) :- E(x y). P(x y) :- E(x z), P(z y). Q(x) :- not P(x x).", "3; E/2 0,1 1,0", "3; E/2 0,1 1,0; P/2 0,0 0,1 1,0 1,1; Q/1 2"},
		{"P(x).", "2", "2; P/1 0 1"},
		{"P(x x).", "2", "2; P/2 0,0 1,1"},
		{"P(x y x).", "2", "2; P/3 0,0,0 0,1,0 1,0,1 1,1,1"},
		{"P().", "1", "1; P/0 ()"},
		{"P() :- P().", "1", "1; P/0"},
		{"P() :- not E(x).", "2; E/1 0", "2; E/1 0; P/0 ()"},
		{"P() :- not E(x).", "2; E/1 0 1", "2; E/1 0 1; P/0"},
		{"P(y) :- x < y, not z < y, not y = z.", "3", "3; P/1 1"},
		{"P(y) :- x < y. P(y) :- y = z, not x = z.", "2", "2; P/1 0 1"},
		{"P(y) :- x < x.", "2", "2; P/1"},
		{"P(x) :- x = x, not x < x.", "2", "2; P/1 0 1"},
		{"B() :- A(). A() :- Z(). C() :- not A().", "1; Z/0 ()", "1; Z/0 (); A/0 (); B/0 (); C/0"},
		{"B() :- A(). A() :- Z(). C() :- not A().", "1; Z/0; Y/1 0", "1; Z/0; Y/1 0; A/0; B/0; C/0 ()"},
		{"Even(x) :- First(x). Even(y) :- E(x y), Odd(x). Odd(y) :- E(x y), Even(x).", "4; E/2 0,1 1,2 2,3; First/1 0", "4; E/2 0,1 1,2 2,3; First/1 0; Even/1 0 2; Odd/1 1 3"},
		{"x(x y) :- y(y x), z(x). y(x y) :- x < y.", "3; z/1 1 2", "3; z/1 1 2; x/2 1,0 2,0 2,1; y/2 0,1 0,2 1,2"},
		{"S(x y) :- E(x y). S(x y) :- S(y x). C(x y) :- S(x y). C(x y) :- C(x z), C(z y). N() :- not C(x y).", "3; E/2 0,1 2,1", "3; E/2 0,1 2,1; C/2 0,0 0,1 0,2 1,0 1,1 1,2 2,0 2,1 2,2; N/0; S/2 0,1 1,0 1,2 2,1"},
		{"W(x) :- E(x y), not V(y). V(x) :- E(x y).", "4; E/2 0,1 1,2 3,2", "4; E/2 0,1 1,2 3,2; V/1 0 1 3; W/1 1 3"},
	} {
		r, e := rules.Run(program(t, c.program), structure(t, c.structure))
		if text, _ := shape.Text(r); e != api.OK || text != c.want {
			t.Errorf("Run(%q, %q) is %q, error %d, instead of %q", c.program, c.structure, text, e, c.want)
		}
	}
}

// TestRandomPrograms is P7.1, and compares proofs with their definition.
func TestRandomPrograms(t *testing.T) {
	m := newMaker(1)
	for range 1200 {
		l := m.program(dress{4, 8, 4, 5, 2})
		s := m.structure(1 + m.Intn(3))
		w := checkRun(t, l, s)
		checkProofs(t, l, s, w)
		checkLeast(t, l, s)
	}
}

// checkLeast checks that the relations of Run are closed under the rules, and that without one tuple of a relation those of its level are not.
func checkLeast(t *testing.T, l []api.Rule, s api.Structure) {
	t.Helper()
	w := worldOf(run(t, l, s))
	level := ranks(l)
	closed := func(only int) bool {
		is := true
		for _, r := range l {
			if only < 0 || level[r.Head.Name] == only {
				w.applied(r, s.Size, func(fact string, _ []int) { is = is && w[fact] })
			}
		}
		return is
	}
	if !closed(-1) {
		t.Errorf("Run(%s, %s) is not closed", write(l), writeStructure(s))
	}
	for _, name := range defined(l) {
		for _, tuple := range tuples(s.Size, arity(l, name)) {
			fact := key(name, tuple)
			if w[fact] {
				w[fact] = false
				if closed(level[name]) {
					t.Errorf("Run(%s, %s) is closed without %s", write(l), writeStructure(s), fact)
				}
				w[fact] = true
			}
		}
	}
}

// TestWideRules has rules of many variables, conditions and levels.
func TestWideRules(t *testing.T) {
	m := newMaker(7)
	for range 60 {
		l := m.program(dress{4, 20, 12, 12, 5})
		s := m.structure(2)
		if _, e := rules.Run(l, s); e == api.OK {
			checkRun(t, l, s)
		}
	}
}

// wantRunErrors fails unless Run, Why and Check say that there is this error.
func wantRunErrors(t *testing.T, l []api.Rule, s api.Structure, want api.Errno) {
	t.Helper()
	if r, e := rules.Run(l, s); e != want || e != api.OK && (r.Size != 0 || len(r.Rels) > 0) {
		t.Errorf("Run(%s, %s) is %v, error %d instead of %d", write(l), writeStructure(s), r, e, want)
	}
	if want == api.OK {
		return
	}
	for _, name := range append(defined(l), "E", "Q") {
		for _, tuple := range [][]int{nil, {0}, {0, 0}, {-1}} {
			if p, e := rules.Why(l, s, name, tuple); e != want || p.Rule != 0 || len(p.Values)+len(p.Parts) > 0 {
				t.Errorf("Why(%s, %s, %s, %v) is %v, error %d instead of %d", write(l), writeStructure(s), name, tuple, p, e, want)
			}
			if rules.Check(l, s, name, tuple, api.Proof{Values: make([]int, len(tuple))}) {
				t.Errorf("Check(%s, %s, %s, %v) is true", write(l), writeStructure(s), name, tuple)
			}
		}
	}
}

func TestRunErrors(t *testing.T) {
	for _, c := range []struct {
		program, structure string
		want               api.Errno
	}{
		{"P(x) :- E(x y).", "2", api.ErrName},
		{"P(x) :- E(x y).", "2; E/1", api.ErrName},
		{"P(x) :- not E(x y).", "2; E/3", api.ErrName},
		{"P(x) :- E(x y).", "2; E/2; P/1", api.ErrName},
		{"P(x) :- E(x y).", "2; E/2; P/2", api.ErrName},
		{"P(x) :- E(x y). Q(x).", "2; Q/0; E/2", api.ErrName},
		{"P(x) :- E(x y), P(y).", "2; E/2", api.OK},
		{"P(x) :- E(x y).", "2; A/0; B/0; C/0; D/0; F/0; G/0; E/2", api.OK},
		{"P(x) :- E(x y). Q(x).", "2; A/0; B/0; C/0; D/0; F/0; G/0; E/2", api.ErrSize},
		{"P(x) :- E(x y).", "2; A/0; B/0; C/0; D/0; F/0; G/0; H/0; E/2", api.ErrSize},
		{"P(x) :- E(x y).", "2; A/0; B/0; C/0; D/0; F/0; G/0; H/0; E/1", api.ErrName},
		{"A(). B(). C(). D(). F(). G(). H(). I().", "1", api.OK},
		{"A(). B(). C(). D(). F(). G(). H(). I(). J().", "1", api.ErrSize},
		{"A(). B(). C(). D(). F(). G(). H(). I(). J() :- E().", "1", api.ErrName},
		{"P(x y).", "64", api.OK},
		{"P(x y z).", "16", api.OK},
		{"P(x y z).", "17", api.ErrSize},
		{"P(x x x).", "17", api.ErrSize},
		{"P(x x x) :- E(x).", "17", api.ErrName},
		{"P(a a a a a a a a a a a a).", "2", api.OK},
		{"P(a a a a a a a a a a a a).", "3", api.ErrSize},
		{"P(x) :- E(x y), x < z.", "40; E/2", api.OK},
		{"P(x) :- E(x y), x < z.", "41; E/2", api.ErrSize},
		{"Q(x). P(x) :- E(x y), x < z.", "41; E/2", api.ErrSize},
		{"P(x) :- E(x y).", "64; E/2", api.OK},
		{"P(x) :- E(x y), x = z.", "64; E/2 0,1", api.ErrSize},
		{"P(a) :- E(b c), E(d e), E(f g), E(a h).", "4; E/2", api.OK},
		{"P(a) :- E(b c), E(d e), E(f g), E(h i).", "4; E/2", api.ErrSize},
		{"P(a) :- E(b c), E(d e), E(f g), E(h i), E(j k), E(l a).", "2; E/2 0,1", api.OK},
		{"P(a b c d) :- E(a b), E(c d).", "16; E/2", api.ErrSize},
		{"P(a b) :- E(a c), E(c d), E(d b).", "16; E/2 0,1 1,2 2,3", api.OK},
	} {
		wantRunErrors(t, program(t, c.program), structure(t, c.structure), c.want)
	}
	broken := api.Structure{Size: 2, Rels: []api.Rel{{Name: "P", Arity: 1, Tuples: [][]int{{2}}}}}
	wantRunErrors(t, program(t, "P(x) :- E(x)."), broken, api.ErrForm)
	wantRunErrors(t, program(t, "P(x y z w)."), api.Structure{Size: 65}, api.ErrForm)
	wantRunErrors(t, []api.Rule{rule(head("P", ""), not(rel("P", "")))}, structure(t, "1"), api.ErrForm)
	wantRunErrors(t, []api.Rule{{}}, api.Structure{}, api.ErrForm)
}
