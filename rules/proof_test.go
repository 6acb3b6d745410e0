package rules_test

import (
	"math"
	"slices"
	"testing"

	"paraphrast/api"
	"paraphrast/rules"
)

// checkProofs compares Why, for all tuples of the defined relations, with the definition of proofs, and with the size of the smallest ones.
func checkProofs(t *testing.T, l []api.Rule, s api.Structure, w world) {
	t.Helper()
	sizes := w.smallest(l, s.Size)
	for _, name := range defined(l) {
		for _, tuple := range tuples(s.Size, arity(l, name)) {
			p, e := rules.Why(l, s, name, tuple)
			least := sizes[key(name, tuple)]
			if least == 0 || least > api.MaxParts {
				want := api.ErrSize
				if least == 0 {
					want = api.ErrNone
				}
				if e != want || p.Rule != 0 || len(p.Values)+len(p.Parts) > 0 {
					t.Errorf("Why(%s, %s, %s, %v) is %v, error %d instead of %d", write(l), writeStructure(s), name, tuple, p, e, want)
				}
				continue
			}
			if e != api.OK || !w.proves(l, s.Size, name, tuple, p) || size(p) != least {
				t.Errorf("Why(%s, %s, %s, %v) is %v, error %d, where a proof has size %d", write(l), writeStructure(s), name, tuple, p, e, least)
			}
			if !rules.Check(l, s, name, tuple, p) {
				t.Errorf("Check(%s, %s, %s, %v, %v) is false", write(l), writeStructure(s), name, tuple, p)
			}
		}
	}
}

const paths = "P(x y) :- E(x y). P(x y) :- E(x z), P(z y). Q(x) :- not P(x x). A() :- Q(x), P(x y), Q(y)."

func TestWhy(t *testing.T) {
	l, s := program(t, paths), structure(t, "3; E/2 0,1 1,2")
	fact := func(x, y int) api.Proof { return api.Proof{Rule: 0, Values: []int{x, y}} }
	for _, c := range []struct {
		name  string
		tuple []int
		want  api.Proof
	}{
		{"P", []int{0, 1}, fact(0, 1)},
		{"P", []int{0, 2}, api.Proof{Rule: 1, Values: []int{0, 2, 1}, Parts: []api.Proof{fact(1, 2)}}},
		{"Q", []int{2}, api.Proof{Rule: 2, Values: []int{2}}},
	} {
		p, e := rules.Why(l, s, c.name, c.tuple)
		if e != api.OK || !equal(p, c.want) {
			t.Errorf("Why(%s, %v) is %v, error %d, instead of %v", c.name, c.tuple, p, e, c.want)
		}
		if !rules.Check(l, s, c.name, c.tuple, p) {
			t.Errorf("Check(%s, %v, %v) is false", c.name, c.tuple, p)
		}
	}
	p, e := rules.Why(l, s, "A", nil)
	if e != api.OK || p.Rule != 3 || len(p.Parts) != 3 || p.Parts[0].Rule != 2 || p.Parts[1].Rule != 0 || p.Parts[2].Rule != 2 || !rules.Check(l, s, "A", nil, p) {
		t.Errorf("Why(A) is %v, error %d", p, e)
	}
}

func TestWhyErrors(t *testing.T) {
	l, s := program(t, paths), structure(t, "3; E/2 0,1 1,2; Z/1 0")
	for _, c := range []struct {
		name  string
		tuple []int
		want  api.Errno
	}{
		{"E", []int{0, 1}, api.ErrName},
		{"Z", []int{0}, api.ErrName},
		{"R", []int{0}, api.ErrName},
		{"", nil, api.ErrName},
		{"P", nil, api.ErrName},
		{"P", []int{0}, api.ErrName},
		{"P", []int{0, 1, 2}, api.ErrName},
		{"P", make([]int, 1<<16), api.ErrName},
		{"A", []int{0}, api.ErrName},
		{"P", []int{1, 0}, api.ErrNone},
		{"P", []int{0, 0}, api.ErrNone},
		{"P", []int{0, 3}, api.ErrNone},
		{"P", []int{-1, 4}, api.ErrNone},
		{"P", []int{math.MaxInt, math.MinInt}, api.ErrNone},
		{"Q", []int{3}, api.ErrNone},
	} {
		if p, e := rules.Why(l, s, c.name, c.tuple); e != c.want || p.Rule != 0 || len(p.Values)+len(p.Parts) > 0 {
			t.Errorf("Why(%s, %.5v) is %v, error %d instead of %d", c.name, c.tuple, p, e, c.want)
		}
		if rules.Check(l, s, c.name, c.tuple, api.Proof{Values: []int{0, 1}}) {
			t.Errorf("Check(%s, %.5v) is true", c.name, c.tuple)
		}
	}
}

// doubling has proofs whose sizes are 1, 3, 7 and so on (P), and the sum of some of them (S): that of the first i elements, and of P for those that B has.
const doubling = `P(x) :- F(x). P(y) :- E(x y), P(x), P(x).
S(x) :- F(x). S(y) :- E(x y), S(x), not B(y). S(y) :- E(x y), S(x), P(y), B(y).
T(y) :- P(y), L(x). T(y) :- F(x), L(x), U(y). T(y) :- S(y), S(y). U(x).`

// TestLargeProofs has tuples whose smallest proofs have as many parts as a proof may have, and one more.
func TestLargeProofs(t *testing.T) {
	l := program(t, doubling)
	s := path(16)
	s.Rels = append(s.Rels, api.Rel{Name: "F", Arity: 1, Tuples: [][]int{{0}}}, api.Rel{Name: "L", Arity: 1, Tuples: [][]int{{15}}},
		api.Rel{Name: "B", Arity: 1, Tuples: [][]int{{2}, {3}, {8}, {9}, {10}, {13}}})
	for _, c := range []struct {
		name    string
		element int
		want    int
	}{{"P", 0, 1}, {"P", 1, 3}, {"P", 13, 16383}, {"P", 14, 0}, {"P", 15, 0}, {"S", 12, 3616}, {"S", 13, 20000}, {"S", 14, 0}, {"S", 15, 0}, {"T", 0, 2}, {"T", 12, 7233}, {"T", 13, 16384}, {"T", 14, 0}} {
		p, e := rules.Why(l, s, c.name, []int{c.element})
		if c.want == 0 {
			if e != api.ErrSize || p.Rule != 0 || len(p.Values)+len(p.Parts) > 0 {
				t.Errorf("Why(%s, %d) has size %d, error %d", c.name, c.element, size(p), e)
			}
		} else if e != api.OK || size(p) != c.want || !rules.Check(l, s, c.name, []int{c.element}, p) {
			t.Errorf("Why(%s, %d) has size %d, error %d, instead of %d", c.name, c.element, size(p), e, c.want)
		}
	}
	if got := relation(t, run(t, l, s), "P"); len(got) != 16 {
		t.Errorf("P has %v", got)
	}
}

// TestHugeProofs has tuples whose smallest proofs have more parts than an int can count.
func TestHugeProofs(t *testing.T) {
	l := program(t, "P(x) :- F(x). P(y) :- E(x y), P(x), P(x).")
	s := path(64)
	s.Rels = append(s.Rels, api.Rel{Name: "F", Arity: 1, Tuples: [][]int{{0}}})
	if got := relation(t, run(t, l, s), "P"); len(got) != 64 {
		t.Errorf("P has %v", got)
	}
	for i := range 64 {
		p, e := rules.Why(l, s, "P", []int{i})
		if want := i > 13; want != (e == api.ErrSize) || want == (e == api.OK) || want != (len(p.Values) == 0) {
			t.Errorf("Why(P, %d) has size %d, error %d", i, size(p), e)
		}
	}
}

// TestProofMemory has proofs in which parts occur twice: they share no memory.
func TestProofMemory(t *testing.T) {
	l := program(t, "P(x) :- F(x). P(y) :- E(x y), P(x), P(x).")
	s := path(4)
	s.Rels = append(s.Rels, api.Rel{Name: "F", Arity: 1, Tuples: [][]int{{0}}})
	p, e := rules.Why(l, s, "P", []int{3})
	if e != api.OK || size(p) != 15 || !apart(p) {
		t.Errorf("Why is %v, error %d", p, e)
	}
}

// TestSmallProofs has tuples whose first proofs, by the number of rounds, are larger than later ones, or larger than the limit.
func TestSmallProofs(t *testing.T) {
	l := program(t, "P(x) :- F(x). P(y) :- E(x y), P(x), P(x). Q(x) :- F(x). Q(y) :- E(x y), Q(x). R(x) :- P(x). R(x) :- Q(y), Q(x), F(x), y = x. R(x) :- W(x). W(x) :- V(x). V(x) :- Q(x).")
	s := path(20)
	s.Rels = append(s.Rels, api.Rel{Name: "F", Arity: 1, Tuples: [][]int{{0}}})
	for i := range 20 {
		want := min(1<<(i+1), i+4)
		p, e := rules.Why(l, s, "R", []int{i})
		if e != api.OK || size(p) != want || !rules.Check(l, s, "R", []int{i}, p) {
			t.Errorf("Why(R, %d) has size %d, error %d, instead of %d", i, size(p), e, want)
		}
	}
}

// TestCheck has proofs with a mistake.
func TestCheck(t *testing.T) {
	l, s := program(t, paths), structure(t, "3; E/2 0,1 1,2")
	one := api.Proof{Rule: 0, Values: []int{1, 2}}
	two := api.Proof{Rule: 1, Values: []int{0, 2, 1}, Parts: []api.Proof{one}}
	tuple := []int{0, 2}
	if !rules.Check(l, s, "P", tuple, two) {
		t.Fatalf("Check(%v) is false", two)
	}
	for what, p := range map[string]api.Proof{
		"no proof":              {},
		"no values":             {Rule: 1, Parts: []api.Proof{one}},
		"too few values":        {Rule: 1, Values: []int{0, 2}, Parts: []api.Proof{one}},
		"too many values":       {Rule: 1, Values: []int{0, 2, 1, 0}, Parts: []api.Proof{one}},
		"no parts":              {Rule: 1, Values: []int{0, 2, 1}},
		"too many parts":        {Rule: 1, Values: []int{0, 2, 1}, Parts: []api.Proof{one, one}},
		"a part of a fact":      {Rule: 1, Values: []int{0, 2, 1}, Parts: []api.Proof{{Rule: 0, Values: []int{1, 2}, Parts: []api.Proof{one}}}},
		"another rule":          {Rule: 0, Values: []int{0, 2}},
		"a rule of another":     {Rule: 2, Values: []int{0}},
		"a wrong part":          {Rule: 1, Values: []int{0, 2, 1}, Parts: []api.Proof{{Rule: 0, Values: []int{0, 1}}}},
		"itself as a part":      {Rule: 1, Values: []int{0, 2, 1}, Parts: []api.Proof{two}},
		"a wrong value":         {Rule: 1, Values: []int{0, 2, 0}, Parts: []api.Proof{two}},
		"a value too large":     {Rule: 1, Values: []int{0, 2, 3}, Parts: []api.Proof{one}},
		"a negative value":      {Rule: 1, Values: []int{0, 2, -1}, Parts: []api.Proof{one}},
		"a negative rule":       {Rule: -1, Values: []int{0, 2, 1}, Parts: []api.Proof{one}},
		"a rule too many":       {Rule: 4, Values: []int{0, 2, 1}, Parts: []api.Proof{one}},
		"a part without values": {Rule: 1, Values: []int{0, 2, 1}, Parts: []api.Proof{{}}},
	} {
		if rules.Check(l, s, "P", tuple, p) {
			t.Errorf("%s: Check(%v) is true", what, p)
		}
	}
	for _, name := range []string{"Q", "E", "", "A"} {
		if rules.Check(l, s, name, tuple, two) {
			t.Errorf("Check(%s, %v) is true", name, two)
		}
	}
	for _, tuple := range [][]int{nil, {0}, {0, 1}, {2, 0}, {0, 2, 0}, {0, 0, 2}, {0, 5}, {-1, 5}} {
		if rules.Check(l, s, "P", tuple, two) {
			t.Errorf("Check(P, %v, %v) is true", tuple, two)
		}
	}
	loop := structure(t, "3; E/2 0,0")
	if first := (api.Proof{Values: []int{0, 0}}); !rules.Check(l, loop, "P", []int{0, 0}, first) || rules.Check(l, loop, "P", []int{-1, 0}, first) || rules.Check(l, loop, "P", []int{0, 3}, first) {
		t.Errorf("Check(%v) accepts other elements", first)
	}
	if rules.Check(l, structure(t, "3; E/2 0,1"), "P", tuple, two) || rules.Check(l, structure(t, "3; E/2 0,1 1,2; Q/0"), "P", tuple, two) || rules.Check(l[1:], s, "P", tuple, two) {
		t.Errorf("Check(%v) is true for other structures", two)
	}
	if !rules.Check(l, structure(t, "3; E/2 0,1 1,2 2,1"), "P", tuple, two) {
		t.Errorf("Check(%v) is false for a larger structure", two)
	}
}

// damage returns a proof with a random mistake, if it is one, in a random place.
func (m maker) damage(p api.Proof, rules, n int) api.Proof {
	p.Values, p.Parts = slices.Clone(p.Values), slices.Clone(p.Parts)
	if len(p.Parts) > 0 && m.Intn(2) == 0 {
		i := m.Intn(len(p.Parts))
		p.Parts[i] = m.damage(p.Parts[i], rules, n)
		return p
	}
	switch m.Intn(6) {
	case 0:
		p.Rule = m.Intn(rules+2) - 1
	case 1, 2:
		if len(p.Values) > 0 {
			p.Values[m.Intn(len(p.Values))] = m.Intn(n+2) - 1
		}
	case 3:
		p.Values = append(p.Values, 0)[:m.Intn(len(p.Values)+2)]
	case 4:
		p.Parts = append(p.Parts, p)[:m.Intn(len(p.Parts)+2)]
	case 5:
		m.Shuffle(len(p.Parts), func(i, j int) { p.Parts[i], p.Parts[j] = p.Parts[j], p.Parts[i] })
	}
	return p
}

// TestDamagedProofs is P7.2 for proofs that were not made by Why.
func TestDamagedProofs(t *testing.T) {
	m := newMaker(8)
	count := map[bool]int{}
	for range 1500 {
		l := m.program(dress{3, 8, 3, 3, 2})
		s := m.structure(1 + m.Intn(3))
		w := meaning(l, s)
		for _, name := range defined(l) {
			all := relation(t, run(t, l, s), name)
			if len(all) == 0 {
				continue
			}
			tuple := pick(m, all...)
			p, e := rules.Why(l, s, name, tuple)
			if e != api.OK {
				t.Fatalf("Why(%s, %s, %s, %v) is error %d", write(l), writeStructure(s), name, tuple, e)
			}
			p = m.damage(p, len(l), s.Size)
			if m.Intn(4) == 0 {
				tuple = pick(m, tuples(s.Size, len(tuple))...)
			}
			want := w.proves(l, s.Size, name, tuple, p)
			count[want]++
			if rules.Check(l, s, name, tuple, p) != want {
				t.Errorf("Check(%s, %s, %s, %v, %v) is %v", write(l), writeStructure(s), name, tuple, p, !want)
			}
		}
	}
	if count[true] < 300 || count[false] < 300 {
		t.Errorf("the results are %v", count)
	}
}

// TestOddProofs has proofs that are deep, share parts or contain themselves.
func TestOddProofs(t *testing.T) {
	l := program(t, "P(x) :- F(x). P(x) :- E(x y), P(y). P(x) :- P(x), P(x), P(x).")
	s := structure(t, "2; E/2 0,0 0,1 1,0; F/1 1")
	tuple := []int{0}
	p := api.Proof{Rule: 1, Values: []int{0, 1}, Parts: []api.Proof{{Rule: 0, Values: []int{1}}}}
	for range 60000 {
		p = api.Proof{Rule: 1, Values: []int{0, 0}, Parts: []api.Proof{p}}
	}
	if !rules.Check(l, s, "P", tuple, p) {
		t.Error("Check of a deep proof is false")
	}
	p = api.Proof{Rule: 1, Values: []int{0, 1}, Parts: []api.Proof{{Rule: 0, Values: []int{1}}}}
	for range 60 {
		parts := []api.Proof{p, p, p}
		p = api.Proof{Rule: 2, Values: []int{0}, Parts: parts}
	}
	if !rules.Check(l, s, "P", tuple, p) {
		t.Error("Check of a proof that shares its parts is false")
	}
	p.Parts[2].Parts[1].Parts[0].Values = []int{1}
	if rules.Check(l, s, "P", tuple, p) {
		t.Error("Check of a proof that shares a wrong part is true")
	}
	round := []api.Proof{{Rule: 1, Values: []int{0, 0}}}
	round[0].Parts = round
	if rules.Check(l, s, "P", tuple, round[0]) {
		t.Error("Check of a proof that contains itself is true")
	}
	round = []api.Proof{{Rule: 1, Values: []int{0, 1}}, {Rule: 1, Values: []int{1, 0}}}
	round[0].Parts, round[1].Parts = round[1:], round[:1]
	if rules.Check(l, s, "P", tuple, round[0]) || rules.Check(l, s, "P", []int{1}, round[1]) {
		t.Error("Check of two proofs that contain each other is true")
	}
	// The same part may occur where it proves something, and where it does not.
	parts := []api.Proof{{Rule: 0, Values: []int{1}}}
	p = api.Proof{Rule: 2, Values: []int{1}, Parts: []api.Proof{parts[0], {Rule: 1, Values: []int{1, 0}, Parts: []api.Proof{{Rule: 1, Values: []int{0, 1}, Parts: parts}}}, {Rule: 1, Values: []int{1, 0}, Parts: parts}}}
	if rules.Check(l, s, "P", []int{1}, p) {
		t.Error("Check of a proof with a part in the wrong place is true")
	}
}
