package mean_test

import (
	"slices"
	"testing"

	"paraphrast/api"
)

const graph = "4; E/2 0,1 1,2; P/1 1 3; Q/0 (); N/0; T/3 0,1,2 1,2,3 3,2,1"

func TestExamples(t *testing.T) {
	wantQuery(t, "tc(x y: E(x y))(a b)", "4; E/2 0,1 1,2", "a b", "0,0 0,1 0,2 1,1 1,2 2,2 3,3")
	wantQuery(t, "pfp(R x: not(R(x)))(a)", "4; E/2 0,1 1,2", "a", "")
	const colours = "exists(R 1: all(x y: or(not(E(x y)), and(R(x), not(R(y))), and(R(y), not(R(x))))))"
	wantQuery(t, colours, "4; E/2 0,1 1,2", "", "()")
	wantQuery(t, colours, "4; E/2 0,1 1,2 2,0", "", "")
	wantQuery(t, colours, "4; E/2 0,1 1,2 2,3 3,0", "", "()")
	wantQuery(t, colours, "1; E/2 0,0", "", "")
}

func TestAtoms(t *testing.T) {
	wantQuery(t, "E(x y)", graph, "x y", "0,1 1,2")
	wantQuery(t, "E(x y)", graph, "y x", "1,0 2,1")
	wantQuery(t, "E(x x)", graph, "x", "")
	wantQuery(t, "P(x)", graph, "x", "1 3")
	wantQuery(t, "P(x)", graph, "y x", "0,1 0,3 1,1 1,3 2,1 2,3 3,1 3,3")
	wantQuery(t, "Q()", graph, "", "()")
	wantQuery(t, "Q()", graph, "x", "0 1 2 3")
	wantQuery(t, "N()", graph, "", "")
	wantQuery(t, "N()", graph, "x", "")
	wantQuery(t, "T(x y z)", graph, "x y z", "0,1,2 1,2,3 3,2,1")
	wantQuery(t, "T(z x y)", graph, "x y z", "1,2,0 2,1,3 2,3,1")
	wantQuery(t, "P(P)", graph, "P", "1 3")
	wantQuery(t, "x = y", "3", "x y", "0,0 1,1 2,2")
	wantQuery(t, "x = x", "3", "x", "0 1 2")
	wantQuery(t, "x < y", "3", "x y", "0,1 0,2 1,2")
	wantQuery(t, "y < x", "3", "x y", "1,0 2,0 2,1")
	wantQuery(t, "x < x", "3", "x", "")
}

func TestConnectives(t *testing.T) {
	wantQuery(t, "true", "2", "", "()")
	wantQuery(t, "false", "2", "", "")
	wantQuery(t, "true", "2", "a b", "0,0 0,1 1,0 1,1")
	wantQuery(t, "not(P(x))", graph, "x", "0 2")
	wantQuery(t, "not(not(P(x)))", graph, "x", "1 3")
	wantQuery(t, "not(true)", graph, "", "")
	wantQuery(t, "and(P(x), P(y), x < y)", graph, "x y", "1,3")
	wantQuery(t, "and(P(x))", graph, "x", "1 3")
	wantQuery(t, "or(P(x), E(x y))", graph, "x y", "0,1 1,0 1,1 1,2 1,3 3,0 3,1 3,2 3,3")
	wantQuery(t, "or(N(), N())", graph, "", "")
	wantQuery(t, "and(or(P(x), x = y), not(and(P(x), P(y))))", graph, "x y", "0,0 1,0 1,2 2,2 3,0 3,2")
}

func TestQuantifiers(t *testing.T) {
	wantQuery(t, "some(y: E(x y))", graph, "x", "0 1")
	wantQuery(t, "some(x: E(x y))", graph, "y", "1 2")
	wantQuery(t, "some(x y: E(x y))", graph, "", "()")
	wantQuery(t, "some(x: E(x x))", graph, "", "")
	wantQuery(t, "some(x y z: and(E(x y), E(y z), P(y)))", graph, "", "()")
	wantQuery(t, "some(x y z: and(E(x y), E(y z), P(z)))", graph, "", "")
	wantQuery(t, "some(z: and(E(x z), E(z y)))", graph, "x y", "0,2")
	wantQuery(t, "all(y: not(E(x y)))", graph, "x", "2 3")
	wantQuery(t, "all(y z: or(not(E(x y)), not(E(y z))))", graph, "x", "1 2 3")
	wantQuery(t, "all(y: x = y)", "1", "x", "0")
	wantQuery(t, "all(y: x = y)", "2", "x", "")
	wantQuery(t, "all(y: some(z: and(not(z = y), not(z = x))))", "2", "x", "")
	wantQuery(t, "all(y: some(z: and(not(z = y), not(z = x))))", "3", "x", "0 1 2")
	// The variable that is bound again is another one.
	wantQuery(t, "and(P(x), some(x: E(x y)))", graph, "x y", "1,1 1,2 3,1 3,2")
	wantQuery(t, "some(x: and(E(x y), some(x: and(E(x y), P(x))), not(P(x))))", graph, "y", "")
	wantQuery(t, "some(x: and(some(x: E(y x)), P(x), y < x))", graph, "y", "0 1")
	wantQuery(t, "some(x: and(P(x), some(x: and(E(x y), not(P(x)))), y = x))", graph, "y", "1")
}

func TestLeastFixedPoints(t *testing.T) {
	const way = "lfp(R x y: or(E(x y), some(z: and(E(x z), R(z y)))))(a b)"
	wantQuery(t, way, "4; E/2 0,1 1,2", "a b", "0,1 0,2 1,2")
	wantQuery(t, way, "4; E/2 0,1 1,0 3,3", "a b", "0,0 0,1 1,0 1,1 3,3")
	wantQuery(t, way, "4; E/2 0,1 1,2", "b a", "1,0 2,0 2,1")
	wantQuery(t, "lfp(R x: R(x))(a)", "3", "a", "")
	wantQuery(t, "lfp(R x: true)(a)", "3", "a", "0 1 2")
	wantQuery(t, "lfp(R x: false)(a)", "3", "a", "")
	wantQuery(t, "lfp(R x: not(not(or(P(x), R(x)))))(a)", graph, "a", "1 3")
	// Even and odd distances, with an element as the value of a variable of the kid.
	wantQuery(t, "lfp(R x: or(x = a, some(y z: and(R(y), E(y z), E(z x)))))(b)", "5; E/2 0,1 1,2 2,3 3,4", "a b", "0,0 0,2 0,4 1,1 1,3 2,2 2,4 3,3 4,4")
	// The relation of the structure is hidden, whatever its arity is; outside it is not.
	wantQuery(t, "and(lfp(E x: or(P(x), E(x)))(a), E(a b))", graph, "a b", "1,2")
	wantQuery(t, "lfp(R x: or(P(x), lfp(R x y: and(E(x y), P(y)))(x x), some(y: and(E(y x), R(y)))))(a)", graph, "a", "1 2 3")
	// The inner stages begin anew for each outer stage.
	wantQuery(t, "lfp(R x: or(all(y: not(E(y x))), lfp(S z: or(and(E(z x), R(z)), and(S(z), R(z))))(x), some(u: and(E(u x), lfp(S z: R(z))(u)))))(a)", "3; E/2 0,1 1,2", "a", "0 1 2")
	// The Args are outside of the Vars.
	wantQuery(t, "lfp(R x y: and(E(x y), P(x)))(y x)", graph, "x y", "2,1")
	wantQuery(t, "some(x: lfp(R x: P(x))(x))", graph, "", "()")
}

func TestPartialFixedPoints(t *testing.T) {
	wantQuery(t, "pfp(R x: true)(a)", "2", "a", "0 1")
	wantQuery(t, "pfp(R x: R(x))(a)", "2", "a", "")
	wantQuery(t, "pfp(R x: P(x))(a)", graph, "a", "1 3")
	// Nothing, 0, 0 and 1, then 0 to 2 for ever.
	wantQuery(t, "pfp(R x: and(not(P(x)), all(y: or(R(y), not(y < x)))))(a)", "4; P/1 3", "a", "0 1 2")
	// Nothing, u, the other element, u again and so on.
	wantQuery(t, "pfp(R x: or(and(x = u, not(R(u))), and(not(x = u), R(u))))(a)", "2", "u a", "")
	// Nothing, all, then 1 and 3 for ever.
	wantQuery(t, "pfp(R x: or(all(y: not(R(y))), P(x)))(a)", graph, "a", "1 3")
	// Nothing, 0, then all of the elements for ever.
	wantQuery(t, "pfp(R x: or(some(y: and(R(y), all(z: not(z < y)))), all(z: not(z < x))))(a)", "3", "a", "0 1 2")
	// What the stages are depends on the value of b.
	wantQuery(t, "pfp(R x: or(P(b), not(R(x))))(a)", "3; P/1 1", "a b", "0,1 1,1 2,1")
	// Nothing, all and so on: to be in some stage is not enough.
	wantQuery(t, "pfp(R x: not(some(y: R(y))))(a)", "3", "a", "")
	wantQuery(t, "pfp(R x: and(P(x), not(some(y: and(R(y), not(P(y)))))))(a)", graph, "a", "1 3")
}

func TestTransitiveClosures(t *testing.T) {
	wantQuery(t, "tc(x y: E(y x))(a b)", "3; E/2 0,1 1,2", "a b", "0,0 1,0 1,1 2,0 2,1 2,2")
	wantQuery(t, "tc(x y: false)(a b)", "3", "a b", "0,0 1,1 2,2")
	wantQuery(t, "tc(x y: true)(a b)", "2", "a b", "0,0 0,1 1,0 1,1")
	wantQuery(t, "tc(x y: E(x y))(a a)", "3; E/2", "a", "0 1 2")
	wantQuery(t, "some(x: and(tc(x y: E(x y))(x y), not(x = y)))", "3; E/2 0,1 1,2", "y", "1 2")
	// Steps that an element allows.
	wantQuery(t, "tc(x y: T(x c y))(a b)", graph, "a b c", "0,0,0 0,0,1 0,0,2 0,0,3 0,2,1 1,1,0 1,1,1 1,1,2 1,1,3 1,3,2 2,2,0 2,2,1 2,2,2 2,2,3 3,1,2 3,3,0 3,3,1 3,3,2 3,3,3")
	// Pairs: the second components follow the first ones by one step.
	wantQuery(t, "tc(x y u v: and(E(x u), y = x, v = u))(a a b b)", "4; E/2 0,1 1,2", "a b", "0,0 0,1 0,2 1,1 1,2 2,2 3,3")
	wantQuery(t, "tc(x y u v: and(u = y, E(y v)))(a b b c)", "3; E/2 0,1 1,2", "a b c", "0,0,0 0,0,1 0,1,2 1,0,1 1,1,1 1,1,2 2,0,1 2,1,2 2,2,2")
	wantQuery(t, "tc(x y u v: and(u = y, E(y v)))(a b c d)", "2; E/2 0,1", "a b c d", "0,0,0,0 0,0,0,1 0,1,0,1 1,0,0,1 1,0,1,0 1,1,1,1")
}

func TestGuessedRelations(t *testing.T) {
	wantQuery(t, "exists(R 0: R())", "2", "", "()")
	wantQuery(t, "exists(R 0: not(R()))", "2", "", "()")
	wantQuery(t, "exists(R 0: and(R(), not(R())))", "2", "", "")
	wantQuery(t, "exists(R 1: P(x))", graph, "x", "1 3")
	wantQuery(t, "exists(P 1: P(x))", graph, "x", "0 1 2 3")
	wantQuery(t, "and(exists(P 1: and(P(x), not(P(y)))), P(x), P(y))", graph, "x y", "1,3 3,1")
	wantQuery(t, "exists(R 1: and(R(x), all(y: or(not(R(y)), y = x, P(y)))))", graph, "x", "0 1 2 3")
	wantQuery(t, "exists(R 1: and(R(x), all(y: or(not(R(y)), P(y)))))", graph, "x", "1 3")
	wantQuery(t, "not(exists(R 1: and(R(x), all(y: or(not(R(y)), P(y))))))", graph, "x", "0 2")
	// An even number of elements is paired without a rest.
	const paired = "exists(R 2: all(x: some(y: and(R(x y), R(y x), not(x = y), all(z: or(z = y, not(R(x z))))))))"
	for size, want := range map[string]string{"1": "", "2": "()", "3": "", "4": "()"} {
		wantQuery(t, paired, size, "", want)
	}
	// Two guesses: three colours are as many as a graph of four elements, all connected, does not have.
	const colours = "exists(R 1: exists(S 1: all(x y: or(not(E(x y)), and(R(x), not(R(y))), and(not(R(x)), R(y)), and(not(R(x)), not(R(y)), S(x), not(S(y))), and(not(R(x)), not(R(y)), not(S(x)), S(y))))))"
	wantQuery(t, colours, "4; E/2 0,1 0,2 1,2 1,3 2,3", "", "()")
	wantQuery(t, colours, "4; E/2 0,1 0,2 0,3 1,2 1,3 2,3", "", "")
	// What a fixed point says of a guess.
	wantQuery(t, "exists(R 1: and(tc(x y: and(E(x y), R(y)))(a b), not(R(c))))", "3; E/2 0,1 1,2", "a b c", "0,0,0 0,0,1 0,0,2 0,1,0 0,1,2 0,2,0 1,1,0 1,1,1 1,1,2 1,2,0 1,2,1 2,2,0 2,2,1 2,2,2")
	wantQuery(t, "exists(R 1: lfp(S x: or(R(x), some(y: and(S(y), E(y x)))))(a))", "2; E/2", "a", "0 1")
	wantQuery(t, "exists(R 1: and(R(b), not(pfp(S x: and(R(x), not(S(x))))(a)), pfp(S x: not(R(x)))(a)))", "2", "a b", "0,1 1,0")
}

// TestEveryKindAtRandom compares Query and Holds with the definitions.
func TestEveryKindAtRandom(t *testing.T) {
	m := newMaker(1)
	kinds := map[int]int{}
	for range 1500 {
		f, s, vars := m.valid(4000), m.structure(1+m.Intn(3)), m.vars(4, true)
		want := answer(f, s, names(vars))
		if l := query(t, f, s, vars); writeTuples(l) != writeTuples(want) {
			t.Errorf("in %v, %s holds for %s: %s instead of %s", s, write(f), vars, writeTuples(l), writeTuples(want))
		}
		all := tuples(s.Size, 4)
		for _, tuple := range all {
			_, in := slices.BinarySearchFunc(want, tuple, slices.Compare[[]int])
			wantHolds(t, f, s, vars, tuple, in)
		}
		for kind := range api.FKinds {
			if has(f, kind) && len(want) > 0 && len(want) < len(all) {
				kinds[kind]++
			}
		}
	}
	for kind := range api.FKinds {
		if kinds[kind] < 20 {
			t.Errorf("only %d of the formulas have the kind %d and hold for some values, but not for all", kinds[kind], kind)
		}
	}
}
