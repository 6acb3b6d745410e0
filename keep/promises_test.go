package keep_test

import (
	"slices"
	"testing"

	"paraphrast/api"
	"paraphrast/keep"
	"paraphrast/rules"
	"paraphrast/shape"
)

// pair is a keeper beside a slow one, for which the same is expected.
type pair struct {
	fast *keep.Keeper
	slow *slow
}

// newPair makes a pair at random.
func newPair(t *testing.T, m maker) pair {
	t.Helper()
	for {
		l, s := m.program(pick(m, []string{"x", "y"}, []string{"x", "y", "z"}, []string{"x", "y", "z", "E"})), m.structure(1+m.Intn(3))
		k, e := keep.New(l, s)
		if _, want := rules.Run(l, s); e != want {
			t.Fatalf("New of\n%sis error %d, Run %d", text(l), e, want)
		}
		if e == api.OK && (m.lively(k) || m.Intn(20) == 0) {
			return pair{k, &slow{rules: l, base: s}}
		}
	}
}

func (p pair) size() int {
	return p.slow.base.Size
}

// about says which program and structure a test has failed for.
func (p pair) about() string {
	s, _ := shape.Text(p.slow.base)
	return text(p.slow.rules) + s
}

// put puts a fact in or out of both and compares the results.
func (p pair) put(t *testing.T, f api.Fact, in bool) {
	t.Helper()
	about := p.about()
	came, went, e := p.fast.Put(f.Name, f.Tuple, in)
	c, w, want := p.slow.put(f.Name, f.Tuple, in)
	if e != want || !equal(came, c) || !equal(went, w) {
		t.Fatalf("%s: Put(%s, %v) is %s; %s; error %d; want %s; %s; error %d", about, write([]api.Fact{f}), in, write(came), write(went), e, write(c), write(w), want)
	}
}

// undo undoes the last change of both.
func (p pair) undo(t *testing.T) {
	t.Helper()
	if e, want := p.fast.Undo(), p.slow.undo(); e != want {
		t.Fatalf("%s: Undo is error %d; want %d", p.about(), e, want)
	}
}

// alike compares Now.
func (p pair) alike(t *testing.T) {
	t.Helper()
	if got, want := p.fast.Now(), p.slow.now(); !equal(got, want) {
		t.Fatalf("%s: Now is %v; want %v", p.about(), got, want)
	}
}

// count compares the counts of a tuple.
func (p pair) count(t *testing.T, f api.Fact) {
	t.Helper()
	n, e := p.fast.Count(f.Name, f.Tuple)
	if want, we := p.slow.count(f.Name, f.Tuple); n != want || e != we {
		t.Fatalf("%s: Count(%s) is %d, error %d; want %d, error %d", p.about(), write([]api.Fact{f}), n, e, want, we)
	}
}

// P8.1, P8.2: after any calls, Now and the facts are those of the definition, in all keepers that have been cloned from each other.
func TestCallsInAnyOrder(t *testing.T) {
	m := newMaker(81)
	for range 1500 {
		pairs := []pair{newPair(t, m)}
		for range 25 {
			p := pick(m, pairs...)
			switch m.Intn(8) {
			case 0, 1, 2:
				f, in := m.change(p.fast)
				p.put(t, f, in)
			case 3:
				p.put(t, m.anyFact(p.slow.rules, p.size()), m.Intn(2) == 0)
			case 4, 5:
				p.undo(t)
			case 6:
				p.count(t, m.anyFact(p.slow.rules, p.size()))
			default:
				pairs = append(pairs, pair{p.fast.Clone(), p.slow.clone()})
			}
			p.alike(t)
		}
		for _, p := range pairs {
			p.alike(t)
		}
	}
}

// P8.1 for each change of each structure with few elements.
func TestAllChanges(t *testing.T) {
	for _, l := range []string{
		paths,
		"P(x y) :- E(x y). P(x y) :- P(x z), P(z y).",
		"P(x y) :- E(x y), not E(y x). Q(x) :- P(x y), not P(y x). Q(x) :- Q(y), E(x y).",
		"P(x) :- E(x x). P(y) :- P(x), E(x y). Q(x) :- not P(x). R() :- Q(x), P(y), x < y. S() :- not R().",
		"P(x) :- Q(y), E(y x). Q(x) :- P(y), E(y x). P(x) :- not E(x x). Q(x) :- E(x y), E(y x), x < y.",
		"P(x y) :- not E(x y), not E(y x). P(x y) :- P(y x), E(x z), E(z y). Q(x x) :- not P(x y). R(x) :- P(x y), Q(y z).",
	} {
		rules := program(t, l)
		for _, n := range []int{1, 2, 3} {
			cells := tuples(n, 2)
			step := 1 + len(cells)/9*16 // of 3 elements, only some structures
			for bits := 0; bits < 1<<len(cells); bits += step {
				s := api.Structure{Size: n, Rels: []api.Rel{{Name: "E", Arity: 2}}}
				for i, c := range cells {
					if bits>>i&1 == 1 {
						s.Rels[0].Tuples = append(s.Rels[0].Tuples, c)
					}
				}
				k, e := keep.New(rules, s)
				if e != api.OK {
					t.Fatalf("New(%s) is error %d", l, e)
				}
				p := pair{k, &slow{rules: rules, base: s}}
				for i, c := range cells {
					p.put(t, api.Fact{Name: "E", Tuple: c}, bits>>i&1 == 0)
					p.alike(t)
					p.undo(t)
				}
			}
		}
	}
}

// P8.2: the facts are added to and removed from Now, each is one, and they are in order.
func TestFactsAreTheDifference(t *testing.T) {
	m := newMaker(82)
	for range 1000 {
		k := newPair(t, m).fast
		for range 10 {
			before := k.Now()
			f, in := m.change(k)
			came, went, e := k.Put(f.Name, f.Tuple, in)
			if e != api.OK {
				t.Fatalf("Put is error %d", e)
			}
			s := before
			for _, f := range went {
				s = apply(t, s, f, false)
			}
			for _, f := range came {
				s = apply(t, s, f, true)
			}
			if now := k.Now(); !equal(s, now) {
				t.Fatalf("%v with %s and without %s is not %v", before, write(came), write(went), now)
			}
			inOrder(t, before, came)
			inOrder(t, before, went)
		}
	}
}

// apply puts a fact in or out of s, where it must not be already.
func apply(t *testing.T, s api.Structure, f api.Fact, in bool) api.Structure {
	t.Helper()
	if was, e := shape.Has(s, f.Name, f.Tuple); was == in || e != api.OK {
		t.Fatalf("%s is %v already in %v, error %d", write([]api.Fact{f}), in, s, e)
	}
	s, e := shape.Put(s, f.Name, f.Tuple, in)
	if e != api.OK {
		t.Fatalf("Put(%s) is error %d", write([]api.Fact{f}), e)
	}
	return s
}

// inOrder checks that facts are ordered by the relations of s and rising.
func inOrder(t *testing.T, s api.Structure, facts []api.Fact) {
	t.Helper()
	place := func(f api.Fact) int {
		return slices.IndexFunc(s.Rels, func(r api.Rel) bool { return r.Name == f.Name })
	}
	for i := 1; i < len(facts); i++ {
		a, b := facts[i-1], facts[i]
		if place(a) > place(b) || place(a) == place(b) && slices.Compare(a.Tuple, b.Tuple) >= 0 {
			t.Fatalf("%s is not in order", write(facts))
		}
	}
}

// P8.3: Undo goes back through all states, and what an insertion adds its removal removes.
func TestUndoRestores(t *testing.T) {
	m := newMaker(83)
	for range 500 {
		p := newPair(t, m)
		k := p.fast
		var states []api.Structure
		for range 12 {
			states = append(states, k.Now())
			f, in := m.change(k)
			k.Put(f.Name, f.Tuple, in)
		}
		for i := len(states) - 1; i >= 0; i-- {
			undo(t, k, api.OK)
			if now := k.Now(); !equal(now, states[i]) {
				t.Fatalf("%s: Undo leads to %v; want %v", p.about(), now, states[i])
			}
		}
		undo(t, k, api.ErrNone)
		f := m.fact(p.size())
		before := k.Now()
		if was, _ := shape.Has(before, f.Name, f.Tuple); was {
			continue
		}
		came, went, _ := k.Put(f.Name, f.Tuple, true)
		back, gone, _ := k.Put(f.Name, f.Tuple, false)
		if !equal(k.Now(), before) || !equal(back, went) || !equal(gone, came) {
			t.Fatalf("%s: the removal of %s does not restore %v", p.about(), write([]api.Fact{f}), before)
		}
	}
}

// P8.4: the tuples of the defined relations are those with a derivation.
func TestCountsAreThoseOfMembers(t *testing.T) {
	m := newMaker(84)
	for range 700 {
		p := newPair(t, m)
		for range 6 {
			f, in := m.change(p.fast)
			p.fast.Put(f.Name, f.Tuple, in)
		}
		now := p.fast.Now()
		names := defined(p.slow.rules)
		for _, r := range now.Rels {
			for _, tuple := range tuples(now.Size, r.Arity) {
				n, e := p.fast.Count(r.Name, tuple)
				if !slices.Contains(names, r.Name) {
					if n != 0 || e != api.ErrName {
						t.Fatalf("%s: Count of %s is %d, error %d", p.about(), r.Name, n, e)
					}
					continue
				}
				if in, _ := shape.Has(now, r.Name, tuple); in != (n > 0) || n < 0 || e != api.OK {
					t.Fatalf("%s: Count(%s, %v) is %d, error %d in %v", p.about(), r.Name, tuple, n, e, now)
				}
			}
		}
	}
}

// The number of derivations is that of the definition.
func TestCountsAreThoseOfTheDefinition(t *testing.T) {
	m := newMaker(85)
	for range 500 {
		p := newPair(t, m)
		for range 4 {
			f, in := m.change(p.fast)
			p.put(t, f, in)
			for _, r := range p.slow.rules {
				p.count(t, api.Fact{Name: r.Head.Name, Tuple: m.tuple(len(r.Head.Args), p.size())})
			}
		}
	}
}

// P8.5: changes of different tuples lead to the same state in each order.
func TestChangesMayBeExchanged(t *testing.T) {
	m := newMaker(86)
	for range 1000 {
		p := newPair(t, m)
		a, b := p.fast, p.fast.Clone()
		var changes []api.Fact
		for range 6 {
			changes = append(changes, m.fact(p.size()))
		}
		changes = slices.CompactFunc(sorted(changes), func(f, g api.Fact) bool { return equal(f, g) })
		in := make([]bool, len(changes))
		for i, f := range changes {
			in[i] = m.Intn(2) == 0
			a.Put(f.Name, f.Tuple, in[i])
		}
		for _, i := range m.Perm(len(changes)) {
			b.Put(changes[i].Name, changes[i].Tuple, in[i])
		}
		if !equal(a.Now(), b.Now()) {
			t.Fatalf("%s: %s, exchanged, lead to %v and %v", p.about(), write(changes), a.Now(), b.Now())
		}
	}
}

func sorted(facts []api.Fact) []api.Fact {
	slices.SortFunc(facts, func(f, g api.Fact) int {
		if f.Name != g.Name {
			return slices.Compare([]byte(f.Name), []byte(g.Name))
		}
		return slices.Compare(f.Tuple, g.Tuple)
	})
	return facts
}
