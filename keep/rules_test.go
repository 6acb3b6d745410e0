package keep_test

import (
	"testing"

	"paraphrast/api"
	"paraphrast/keep"
)

// R1: the methods of a keeper that New and Clone did not return do nothing.
func TestOtherKeepers(t *testing.T) {
	copied := *keeper(t, paths, "2; E/2 0,1")
	for name, k := range map[string]*keep.Keeper{"nil": nil, "zero": {}, "new": new(keep.Keeper), "copied": &copied} {
		for _, f := range []api.Fact{fact("E 0,1"), fact("E 0,9"), fact("none 0"), fact("P 0,1"), {}} {
			if came, went, e := k.Put(f.Name, f.Tuple, true); e != api.ErrState || len(came) != 0 || len(went) != 0 {
				t.Errorf("%s: Put is %v, %v, error %d", name, came, went, e)
			}
			if n, e := k.Count(f.Name, f.Tuple); e != api.ErrState || n != 0 {
				t.Errorf("%s: Count is %d, error %d", name, n, e)
			}
		}
		if e := k.Undo(); e != api.ErrState {
			t.Errorf("%s: Undo is error %d", name, e)
		}
		if s := k.Now(); !equal(s, api.Structure{}) {
			t.Errorf("%s: Now is %v", name, s)
		}
		if c := k.Clone(); c != nil {
			t.Errorf("%s: Clone is %v", name, c)
		}
	}
}

// A keeper does not change when it is copied without Clone, and the copy is asked to change.
func TestCopiesChangeNothing(t *testing.T) {
	k := keeper(t, paths, "3; E/2 0,1 1,2")
	put(t, k, "E 2,0", true, "E 2,0; P 0,0; P 1,0; P 1,1; P 2,0; P 2,1; P 2,2", "")
	c := *k
	c.Put("E", []int{0, 1}, false)
	c.Undo()
	is(t, k, "3; E/2 0,1 1,2 2,0; P/2 0,0 0,1 0,2 1,0 1,1 1,2 2,0 2,1 2,2")
	undo(t, k, api.OK)
	is(t, k, "3; E/2 0,1 1,2; P/2 0,1 0,2 1,2")
}

// R4, R5: arguments are neither changed nor retained, nil and empty ones are the same, and results are new memory.
func TestMemory(t *testing.T) {
	m := newMaker(5)
	for range 300 {
		p := newPair(t, m)
		l, s := copied(p.slow.rules, m.Intn(2) == 0), copied(p.slow.base, m.Intn(2) == 0)
		k, e := keep.New(l, s)
		if e != api.OK || !marked(l) || !marked(s) || !equal(l, p.slow.rules) || !equal(s, p.slow.base) {
			t.Fatalf("%s: New has changed its arguments, or is error %d", p.about(), e)
		}
		scribble(l)
		scribble(s)
		p.fast = k
		for range 6 {
			f, in := m.change(k)
			tuple := copied(f.Tuple, m.Intn(2) == 0)
			came, went, e := k.Put(f.Name, tuple, in)
			if e != api.OK || !marked(tuple) || !equal(tuple, f.Tuple) {
				t.Fatalf("%s: Put has changed %v, or is error %d", p.about(), f, e)
			}
			scribble(tuple)
			now := k.Now()
			p.slow.base = k.Now()
			p.slow.base.Rels = p.slow.base.Rels[:len(symbols())]
			if !apart(came) || !apart(went) || !apart(now) {
				t.Fatalf("%s: results share memory", p.about())
			}
			scribble(came)
			scribble(went)
			scribble(now)
			p.alike(t)
		}
		r := p.slow.rules[0].Head
		tuple := copied(m.tuple(len(r.Args), p.size()), m.Intn(2) == 0)
		kept := copied(tuple, false)
		if _, e := k.Count(r.Name, tuple); e != api.OK || !marked(tuple) || !equal(tuple, kept) {
			t.Fatalf("%s: Count has changed %v, or is error %d", p.about(), kept, e)
		}
		p.alike(t)
	}
}

// R6: the same calls have the same results, whatever other keepers do.
func TestResultsDependOnCallsOnly(t *testing.T) {
	m := newMaker(6)
	for range 300 {
		p := newPair(t, m)
		other, e := keep.New(p.slow.rules, p.slow.base)
		if e != api.OK {
			t.Fatalf("New is error %d", e)
		}
		for range 8 {
			f, in := m.change(p.fast)
			came, went, e := p.fast.Put(f.Name, f.Tuple, in)
			p.fast.Now()
			p.fast.Clone().Undo()
			c, w, oe := other.Put(f.Name, f.Tuple, in)
			if e != oe || !equal(came, c) || !equal(went, w) || !equal(p.fast.Now(), other.Now()) {
				t.Fatalf("%s: Put(%s, %v) has two results", p.about(), write([]api.Fact{f}), in)
			}
		}
	}
}
