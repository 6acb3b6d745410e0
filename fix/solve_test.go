package fix_test

import (
	"slices"
	"strings"
	"testing"

	"paraphrast/api"
	"paraphrast/fix"
	"paraphrast/mean"
)

const (
	ways = "R x y: or(E(x y), some(z: and(E(x z), R(z y))))"
	even = "Even x: or(all(z: not(z < x)), some(y: and(Odd(y), E(y x))))"
	odd  = "Odd x: some(y: and(Even(y), E(y x)))"
)

func TestSolve(t *testing.T) {
	for _, c := range []struct {
		in    string
		defs  []string
		want  string
		steps int
	}{
		{"3; E/2 0,1 1,2", []string{ways}, "R/2 0,1 0,2 1,2", 2},
		{"3; E/2", []string{ways}, "R/2", 0},
		{"1; E/2 0,0", []string{ways}, "R/2 0,0", 1},
		{"4; E/2 0,1 1,2 2,3", []string{ways}, "R/2 0,1 0,2 0,3 1,2 1,3 2,3", 3},
		{"4; E/2 0,1 1,0 2,3", []string{ways}, "R/2 0,0 0,1 1,0 1,1 2,3", 2},
		{"5; E/2 0,1 1,2 2,3 3,4", []string{even, odd}, "Even/1 0 2 4; Odd/1 1 3", 5},
		{"5; E/2 0,1 1,2 2,3 3,4", []string{odd, even}, "Odd/1 1 3; Even/1 0 2 4", 5},
		{"4; E/2 0,1 1,2 2,0", []string{even, odd}, "Even/1 0 1 2; Odd/1 0 1 2", 6},
		// Nothing, everything, and what does not depend on itself.
		{"3", []string{"R x: false"}, "R/1", 0},
		{"3", []string{"R x: R(x)"}, "R/1", 0},
		{"3", []string{"R x: true"}, "R/1 0 1 2", 1},
		{"2", []string{"R y x: y < x"}, "R/2 0,1", 1},
		{"2", []string{"R y x: x < y"}, "R/2 1,0", 1},
		{"3; P/1 1", []string{"R x: not(P(x))"}, "R/1 0 2", 1},
		{"2", []string{"A x: true", "B x: A(x)", "C x: B(x)", "D x: true"}, "A/1 0 1; B/1 0 1; C/1 0 1; D/1 0 1", 3},
		{"2", []string{"C x: B(x)", "D x: true", "B x: A(x)", "A x: true"}, "C/1 0 1; D/1 0 1; B/1 0 1; A/1 0 1", 3},
		{"2", []string{"A x: B(x)", "B x: A(x)"}, "A/1; B/1", 0},
		{"2; Q/0 ()", []string{"A x y z: and(Q(), x < y, x < z)"}, "A/3 0,1,1", 1},
		// A relation that stays as it is for some steps, and then grows.
		{"4; E/2 0,1 1,2 2,3", []string{"A x: or(all(z: not(z < x)), some(y: and(A(y), E(y x))))", "B x: and(all(z: not(x < z)), A(x))", "C x: some(y: B(y))"}, "A/1 0 1 2 3; B/1 3; C/1 0 1 2 3", 6},
		// The structure has relations with the names of the system; these are other ones.
		{"2; R/1 0; E/2 0,1", []string{ways}, "R/2 0,1", 1},
		{"2; R/2 0,0 1,1; E/2 0,1", []string{ways}, "R/2 0,1", 1},
		{"2; S/1 0 1; R/1 1", []string{"S x: R(x)"}, "S/1 1", 1},
		// Names that are bound within a Body are not those of the system.
		{"3; P/1 1", []string{"R x: lfp(R x y: P(y))(x x)"}, "R/1 1", 1},
		{"3; P/1 1", []string{"R x: or(P(x), exists(R 0: not(R())))"}, "R/1 0 1 2", 1},
		{"3; P/1 1", []string{"R x: or(P(x), pfp(R x: not(R(x)))(x))"}, "R/1 1", 1},
		{"2; P/1 1", []string{"A x: lfp(B y: P(y))(x)", "B y: not(P(y))"}, "A/1 1; B/1 0", 1},
		// Other fixed points within a Body.
		{"4; E/2 0,1 1,2 2,3", []string{"R x: or(all(z: not(z < x)), tc(u v: and(R(u), E(u v)))(u x))"}, "", 0},
		{"4; E/2 0,1 1,2 2,3; P/1 0", []string{"R x: or(P(x), some(u: and(R(u), tc(a b: E(a b))(u x))))"}, "R/1 0 1 2 3", 2},
		{"4; E/2 0,1 1,2 2,3; P/1 0", []string{"R x: or(P(x), some(u: lfp(S y: and(R(u), or(E(u y), some(v: and(S(v), E(v y))))))(x)))"}, "R/1 0 1 2 3", 2},
		// The same name for a variable and for a relation.
		{"2; P/1 1", []string{"x x: P(x)", "P2 P2: x(P2)"}, "x/1 1; P2/1 1", 2},
	} {
		s := structure(t, c.in)
		defs := system(t, c.defs...)
		if c.want == "" {
			wantErrors(t, defs, s, api.ErrForm)
			continue
		}
		if l := solve(t, defs, s); writeRels(l) != c.want {
			t.Errorf("in %s, the least fixed point of %q is %s instead of %s", c.in, c.defs, writeRels(l), c.want)
		}
		if n, e := fix.Steps(defs, s); n != c.steps || e != api.OK {
			t.Errorf("in %s, Steps(%q) is %d, error %d, instead of %d", c.in, c.defs, n, e, c.steps)
		}
	}
}

// TestExample is the first example of the chapter.
func TestExample(t *testing.T) {
	s := structure(t, "3; E/2 0,1 1,2")
	wantStages(t, ways, s, "; 0,1 1,2; 0,1 0,2 1,2")
	d := def(t, ways)
	for _, c := range []struct {
		tuple []int
		n     int
		e     api.Errno
	}{
		{[]int{0, 1}, 1, api.OK},
		{[]int{1, 2}, 1, api.OK},
		{[]int{0, 2}, 2, api.OK},
		{[]int{2, 0}, 0, api.ErrNone},
		{[]int{0, 0}, 0, api.ErrNone},
		{nil, 0, api.ErrArg},
		{[]int{0}, 0, api.ErrArg},
		{[]int{0, 1, 2}, 0, api.ErrArg},
		{[]int{0, 3}, 0, api.ErrArg},
		{[]int{-1, 0}, 0, api.ErrArg},
		{make([]int, 1<<20), 0, api.ErrArg},
	} {
		if n, e := fix.Enters(d, s, c.tuple); n != c.n || e != c.e {
			t.Errorf("a tuple of %d elements enters at %d, error %d, instead of %d, error %d", len(c.tuple), n, e, c.n, c.e)
		}
	}
}

// wantStages fails unless these are the stages of a definition.
func wantStages(t *testing.T, text string, s api.Structure, want string) {
	t.Helper()
	l, e := fix.Stages(def(t, text), s)
	var words []string
	for _, stage := range l {
		words = append(words, writeTuples(stage))
	}
	if got := strings.Join(words, "; "); e != api.OK || got != want {
		t.Errorf("the stages of %s are %q, error %d, instead of %q", text, got, e, want)
	}
}

func TestStages(t *testing.T) {
	s := structure(t, "3; E/2 0,1 1,2; R/1 1")
	wantStages(t, "R x: false", s, "")
	wantStages(t, "R x: R(x)", s, "")
	wantStages(t, "R x: true", s, "; 0 1 2")
	wantStages(t, "S x: R(x)", s, "; 1")
	wantStages(t, "R x: or(all(z: not(z < x)), some(y: and(E(y x), R(y))))", s, "; 0; 0 1; 0 1 2")
	wantStages(t, "R x: or(all(z: not(x < z)), some(y: and(E(x y), R(y))))", s, "; 2; 1 2; 0 1 2")
	wantStages(t, "R x: all(y: or(not(E(x y)), R(y)))", s, "; 2; 1 2; 0 1 2")
	wantStages(t, "R x: all(y: or(not(E(x y)), R(y)))", structure(t, "3; E/2 0,1 1,0 1,2"), "; 2")
	wantStages(t, "R x y: or(and(E(x y), not(x = y)), R(y x))", s, "; 0,1 1,2; 0,1 1,0 1,2 2,1")
	if n, e := fix.Enters(def(t, "R x: false"), s, []int{0}); n != 0 || e != api.ErrNone {
		t.Errorf("a tuple enters nothing at %d, error %d", n, e)
	}
}

// TestSolveAtRandom compares Solve and Steps with the definition of the stages (P6.2).
func TestSolveAtRandom(t *testing.T) {
	m := newMaker(1)
	steps := 0
	for range 1500 {
		defs, s := m.system(3, 2), m.structure(1+m.Intn(5))
		want := stages(t, defs, s)
		last := len(want) - 1
		if l := solve(t, defs, s); !equalRels(l, want[last]) {
			t.Errorf("in %v, the least fixed point of %s is %s instead of %s", s, writeDefs(defs), writeRels(l), writeRels(want[last]))
		}
		if n, e := fix.Steps(defs, s); n != last || e != api.OK {
			t.Errorf("in %v, Steps(%s) is %d, error %d, instead of %d", s, writeDefs(defs), n, e, last)
		}
		if last >= 3 {
			steps++
		}
	}
	if steps < 60 {
		t.Errorf("only %d systems have more than two steps", steps)
	}
}

// TestStagesAtRandom is promise P6.2: the stages by their definition, that they grow, which tuples enter, and the FLfp with the definition.
func TestStagesAtRandom(t *testing.T) {
	m := newMaker(2)
	for range 600 {
		defs, s := m.system(1, 2), m.structure(1+m.Intn(3))
		d := defs[0]
		want := stages(t, defs, s)
		l, e := fix.Stages(d, s)
		if e != api.OK || len(l) != len(want) {
			t.Fatalf("in %v, there are %d stages of %s, error %d, instead of %d", s, len(l), writeDefs(defs), e, len(want))
		}
		for i := range l {
			if !equalTuples(l[i], want[i][0].Tuples) || i > 0 && !contains(want[i], want[i-1]) {
				t.Errorf("in %v, stage %d of %s is %v instead of %v", s, i, writeDefs(defs), l[i], want[i])
			}
		}
		for _, tuple := range tuples(s.Size, len(d.Vars)) {
			wantEnters(t, d, s, tuple, l)
		}
		f := lfp(d.Name, strings.Join(d.Vars, " "), d.Body, strings.Join(d.Vars, " "))
		if found, ok := query(t, f, s, d.Vars); ok && !equalTuples(found, l[len(l)-1]) {
			t.Errorf("in %v, the last stage of %s is %v, but its FLfp holds for %v", s, writeDefs(defs), l[len(l)-1], found)
		}
	}
}

// wantEnters fails unless a tuple enters at the first stage that contains it.
func wantEnters(t *testing.T, d api.Def, s api.Structure, tuple []int, stages [][][]int) {
	t.Helper()
	want, wanted := 0, api.ErrNone
	for i, stage := range slices.Backward(stages) {
		if slices.ContainsFunc(stage, func(o []int) bool { return slices.Equal(o, tuple) }) {
			want, wanted = i, api.OK
		}
	}
	if n, e := fix.Enters(d, s, tuple); n != want || e != wanted {
		t.Errorf("in %v, Enters(%s, %v) is %d, error %d, instead of %d, error %d", s, writeDefs([]api.Def{d}), tuple, n, e, want, wanted)
	}
}

// TestLeast is promise P6.1, by all relations of the names of the system.
func TestLeast(t *testing.T) {
	m := newMaker(3)
	for range 150 {
		defs, s := m.system(3, 1), m.structure(1+m.Intn(2))
		least := solve(t, defs, s)
		if l := image(t, defs, s, least); !equalRels(l, least) {
			t.Errorf("in %v, %s maps its fixed point %s to %s", s, writeDefs(defs), writeRels(least), writeRels(l))
		}
		selections(defs, s.Size, func(rels []api.Rel) {
			if contains(rels, image(t, defs, s, rels)) && !contains(rels, least) {
				t.Errorf("in %v, %s maps %s into itself, which does not contain %s", s, writeDefs(defs), writeRels(rels), writeRels(least))
			}
		})
	}
}

// TestOrder is promise P6.4.
func TestOrder(t *testing.T) {
	m := newMaker(4)
	for range 300 {
		defs, s := m.system(4, 2), m.structure(1+m.Intn(3))
		want := solve(t, defs, s)
		steps, _ := fix.Steps(defs, s)
		order := m.Perm(len(defs))
		var turned []api.Def
		for _, i := range order {
			turned = append(turned, defs[i])
		}
		got := solve(t, turned, s)
		for i, r := range got {
			if !equalRels([]api.Rel{r}, want[order[i]:order[i]+1]) {
				t.Errorf("in %v, relation %s of %s is %v instead of %v", s, r.Name, writeDefs(turned), r, want[order[i]])
			}
		}
		if n, e := fix.Steps(turned, s); n != steps || e != api.OK {
			t.Errorf("in %v, Steps(%s) is %d, error %d, instead of %d", s, writeDefs(turned), n, e, steps)
		}
	}
}

// TestLongWays has many stages of large relations.
func TestLongWays(t *testing.T) {
	s := path(64)
	defs := system(t, ways)
	less, _ := query(t, parse(t, "x < y"), s, names("x y"))
	if l := solve(t, defs, s); !equalTuples(l[0].Tuples, less) {
		t.Errorf("in a path, the ways are %v", l)
	}
	if n, e := fix.Steps(defs, s); n != 63 || e != api.OK {
		t.Errorf("in a path, the ways have %d steps, error %d", n, e)
	}
	// Eight relations that wait for one another.
	chain := system(t, "A1 x: or(all(z: not(z < x)), some(y: and(A8(y), E(y x))))")
	for i := range 7 {
		chain = append(chain, def(t, strings.NewReplacer("B", "A"+string(rune('2'+i)), "C", "A"+string(rune('1'+i))).Replace("B x: C(x)")))
	}
	if n, e := fix.Steps(chain, s); n != 8*64 || e != api.OK {
		t.Errorf("the chain has %d steps, error %d", n, e)
	}
	for _, r := range solve(t, chain, s) {
		if len(r.Tuples) != 64 {
			t.Errorf("the chain ends with %v", r)
		}
	}
	if cost, e := mean.Cost(chain[0].Body, 64); cost > 1<<20 || e != api.OK {
		t.Errorf("the cost is %d, error %d", cost, e)
	}
}
