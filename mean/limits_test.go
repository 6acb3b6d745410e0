package mean_test

import (
	"strconv"
	"strings"
	"testing"

	"paraphrast/api"
	"paraphrast/mean"
)

// numbered returns n names that begin with a letter.
func numbered(letter string, n int) string {
	var l []string
	for i := range n {
		l = append(l, letter+strconv.Itoa(i))
	}
	return strings.Join(l, " ")
}

// repeated returns n times the same name.
func repeated(name string, n int) string {
	return strings.Repeat(name+" ", n)
}

// TestSizeOfDefinedRelations has the numbers of variables up to which relations have at most 4096 tuples.
func TestSizeOfDefinedRelations(t *testing.T) {
	for size, k := range map[int]int{1: 12, 2: 12, 3: 7, 4: 6, 5: 5, 8: 4, 9: 3, 16: 3, 17: 2, 64: 2} {
		s := api.Structure{Size: size}
		for _, kind := range []int{api.FLfp, api.FPfp} {
			wantHolds(t, defined(kind, "R", numbered("v", k), and(), repeated("x", k)), s, "x", []int{0}, true)
			if k < 12 {
				wantError(t, defined(kind, "R", numbered("v", k+1), and(), repeated("x", k+1)), s, names("x"), []int{0}, api.ErrSize)
			}
		}
		wantHolds(t, tc(numbered("v", 2*k), or(), repeated("x", k)+repeated("y", k)), s, "x y", []int{0, size - 1}, size == 1)
		if k < 12 {
			wantError(t, tc(numbered("v", 2*k+2), or(), repeated("x", 2*k+2)), s, names("x"), []int{0}, api.ErrSize)
		}
	}
	twelve := repeated("x", 12)
	wantError(t, defined(api.FLfp, "R", numbered("v", 12), and(), twelve), api.Structure{Size: 64}, names("x"), []int{0}, api.ErrSize)
	wantError(t, tc(numbered("v", 24), and(), twelve+twelve), api.Structure{Size: 3}, names("x"), []int{0}, api.ErrSize)
}

// TestSizeOfGuessedRelations has the arities up to which relations have at most 16 tuples.
func TestSizeOfGuessedRelations(t *testing.T) {
	for size, k := range map[int]int{1: 12, 2: 4, 3: 2, 4: 2, 5: 1, 16: 1, 17: 0, 64: 0} {
		s := api.Structure{Size: size}
		f := func(k int) api.Formula { return exists("R", k, rel("R", repeated("x", k))) }
		wantHolds(t, f(k), s, "x", []int{size - 1}, true)
		wantHolds(t, not(f(k)), s, "x", []int{size - 1}, false)
		if k < 12 {
			wantError(t, f(k+1), s, names("x"), []int{0}, api.ErrSize)
		}
	}
	wantError(t, exists("R", 12, and()), api.Structure{Size: 64}, nil, nil, api.ErrSize)
}

// TestSizeAnywhere has relations that are too large where no evaluation needs them.
func TestSizeAnywhere(t *testing.T) {
	s := api.Structure{Size: 17}
	for _, f := range []api.Formula{
		exists("R", 1, and()),
		defined(api.FLfp, "R", "a b c", and(), "x x x"),
		defined(api.FPfp, "R", "a b c", or(), "x x x"),
		tc("a b c d e f", and(), "x x x x x x"),
	} {
		for _, g := range []api.Formula{
			f,
			not(f),
			or(and(), f),
			and(or(), f),
			some("x", f),
			all("y", and(or(), or(f, and()))),
			exists("P", 0, f),
			defined(api.FLfp, "P", "x", or(or(), f), "x"),
			defined(api.FPfp, "P", "x", and(f, or()), "x"),
			tc("x y", f, "x x"),
		} {
			wantError(t, g, s, names("x"), []int{0}, api.ErrSize)
			if _, e := mean.Holds(g, api.Structure{Size: 1}, names("x"), []int{0}); e != api.OK {
				t.Errorf("with one element, %s is error %d", write(g), e)
			}
		}
	}
}

// TestSizeOfResults has the numbers of variables up to which there are at most 4096 tuples.
func TestSizeOfResults(t *testing.T) {
	for size, k := range map[int]int{1: 5000, 2: 12, 3: 7, 4: 6, 16: 3, 17: 2, 64: 2} {
		s := api.Structure{Size: size}
		vars := names(numbered("v", k))
		l, e := mean.Query(and(), s, vars)
		if want := tuples(size, k); e != api.OK || size > 1 && writeTuples(l) != writeTuples(want) || len(l) != len(want) || len(l[0]) != k {
			t.Errorf("Query of %d variables in %d elements has %d tuples, error %d", k, size, len(l), e)
		}
		if size == 1 {
			continue
		}
		vars = names(numbered("v", k+1))
		if l, e := mean.Query(and(), s, vars); e != api.ErrSize || len(l) > 0 {
			t.Errorf("Query of %d variables in %d elements has %d tuples, error %d", k+1, size, len(l), e)
		}
		if is, e := mean.Holds(and(), s, vars, make([]int, k+1)); e != api.OK || !is {
			t.Errorf("Holds for %d variables is %v, error %d", k+1, is, e)
		}
	}
	vars := names(numbered("v", 100))
	for _, text := range []string{"v0 = v99", "some(x: x = v99)", "lfp(R x: x = v50)(v49)"} {
		l, e := mean.Query(parse(t, text), api.Structure{Size: 1}, vars)
		if e != api.OK || writeTuples(l) != strings.Repeat("0,", 99)+"0" {
			t.Errorf("with one element, the query of %s is %v, error %d", text, l, e)
		}
	}
}

// counting has the stages 0, 1, 2 and so on, as binary numbers of which element 0 is the lowest digit. The number whose digits are in P is followed by the one whose digits are in N.
const counting = "pfp(R x: or(and(END, N(x)), and(not(END), or(and(R(x), some(y: and(y < x, not(R(y))))), and(not(R(x)), all(y: or(not(y < x), R(y))))))))(a)"

// digits lists the places of the digits 1 of a binary number.
func digits(number int) [][]int {
	var l [][]int
	for i := range 13 {
		if number>>i&1 == 1 {
			l = append(l, []int{i})
		}
	}
	return l
}

// counter returns a structure in which the number p is followed by n.
func counter(p, n int) api.Structure {
	s := with(api.Structure{Size: 13}, "P", 1, digits(p))
	return with(s, "N", 1, digits(n))
}

// TestStages has partial fixed points with up to 5000 stages, which must be found, and with more of them.
func TestStages(t *testing.T) {
	f := parse(t, strings.ReplaceAll(counting, "END", "all(y: or(and(R(y), P(y)), not(or(R(y), P(y)))))"))
	for _, last := range []int{0, 1, 2, 3, 5, 100, 4095, 4096, 4998, 4999} {
		if l := query(t, f, counter(last, last), "a"); writeTuples(l) != writeTuples(digits(last)) {
			t.Errorf("counting to %d ends with the digits %v", last, l)
		}
		// The stages repeat from the first one or from a later one on.
		for _, back := range []int{0, 1, last / 2, last - 1} {
			if back < 0 || back >= last {
				continue
			}
			if l := query(t, f, counter(last, back), "a"); len(l) > 0 {
				t.Errorf("counting to %d and then from %d on ends with the digits %v", last, back, l)
			}
		}
	}
	for _, last := range []int{5000, 5001, 8190} {
		l, e := mean.Query(f, counter(last, last), names("a"))
		if stopped := e == api.ErrSize && len(l) == 0; !stopped && (e != api.OK || writeTuples(l) != writeTuples(digits(last))) {
			t.Errorf("counting to %d ends with %v, error %d", last, l, e)
		}
	}
	// With 64 elements, there is no end of it.
	endless := parse(t, strings.ReplaceAll(counting, "END", "false"))
	wantError(t, endless, structure(t, "64; N/1"), names("a"), []int{0}, api.ErrSize)
	// The stages are as many within other formulas.
	for _, g := range []api.Formula{some("a", f), not(f), defined(api.FLfp, "S", "a", f, "a"), tc("b a", f, "a a"), exists("S", 0, f)} {
		is, e := mean.Holds(g, counter(6000, 0), names("a"), []int{0})
		want := g.Kind == api.FNot || g.Kind == api.FTc
		if stopped := e == api.ErrSize && !is; !stopped && (e != api.OK || is != want) {
			t.Errorf("Holds(%s) is %v, error %d", write(g), is, e)
		}
	}
}

// path returns the structure of a path through all elements.
func path(size int) api.Structure {
	var l [][]int
	for i := range size - 1 {
		l = append(l, []int{i, i + 1})
	}
	return with(api.Structure{Size: size}, "E", 2, l)
}

// TestLargeStructures has formulas for which an evaluation by the definitions would take hours.
func TestLargeStructures(t *testing.T) {
	s := path(64)
	all := query(t, parse(t, "or(x < y, x = y)"), s, "x y")
	less := query(t, parse(t, "x < y"), s, "x y")
	for text, want := range map[string][][]int{
		"tc(u v: E(u v))(x y)": all,
		"tc(u v p q: or(and(E(u p), v = q), and(E(v q), u = p)))(x x y y)":                                               all,
		"lfp(R u v: or(E(u v), some(w: and(E(u w), R(w v)))))(x y)":                                                      less,
		"lfp(R u v: or(E(u v), some(w: and(R(u w), R(w v)))))(x y)":                                                      less,
		"pfp(R u v: or(E(u v), some(w: and(E(u w), R(w v)))))(x y)":                                                      less,
		"some(u: and(tc(u v: E(u v))(x u), E(u y)))":                                                                     less,
		"and(x < y, some(a b c d e f: and(E(a b), E(b c), E(c d), E(d e), E(e f))))":                                     less,
		"and(x < y, all(a b c d e f: or(not(E(a b)), not(E(b c)), not(E(c d)), not(E(d e)), not(E(e f)), not(E(f a)))))": less,
	} {
		if l := query(t, parse(t, text), s, "x y"); writeTuples(l) != writeTuples(want) {
			t.Errorf("in a path, %s holds for %v", text, l)
		}
	}
	const colours = "exists(R 1: exists(S 1: all(x y: or(not(E(x y)), and(R(x), not(R(y))), and(not(R(x)), R(y)), and(not(R(x)), not(R(y)), S(x), not(S(y))), and(not(R(x)), not(R(y)), not(S(x)), S(y))))))"
	wantHolds(t, parse(t, colours), path(11), "", nil, true)
	complete := structure(t, "11; E/2 4,0 4,1 4,2 4,3 5,4 6,5 7,6 8,0 8,1 8,2 8,3 9,8 10,0 10,1 10,2 10,3 10,4")
	wantHolds(t, parse(t, colours), complete, "", nil, true)
	complete = structure(t, "11; E/2 8,7 9,7 9,8 10,7 10,8 10,9")
	wantHolds(t, parse(t, colours), complete, "", nil, false)
}

// TestFewVariables has formulas that use two variables again and again, so that each of their parts depends on one element.
func TestFewVariables(t *testing.T) {
	s := with(with(api.Structure{Size: 64}, "P", 1, nil), "E", 2, tuples(64, 2))
	f, g := rel("P", "x"), not(rel("P", "x"))
	for range 3 {
		f = some("y", and(rel("E", "x y"), some("x", and(rel("E", "y x"), f))))
		g = all("y", or(not(rel("E", "x y")), all("x", or(not(rel("E", "y x")), g))))
	}
	wantHolds(t, f, s, "x", []int{0}, false)
	wantHolds(t, g, s, "x", []int{0}, true)
	if l := query(t, or(f, not(g)), s, "x y"); len(l) > 0 {
		t.Errorf("%s holds for %v", write(f), l)
	}
}

// TestManyParts has so many parts with so many values of their variables that not all of their results can be kept.
func TestManyParts(t *testing.T) {
	s := with(with(api.Structure{Size: 64}, "P", 1, [][]int{{1}, {3}}), "E", 2, tuples(64, 2))
	parts := and()
	for range 20 {
		parts.Kids = append(parts.Kids, some("u", and(rel("E", "x u"), rel("E", "y u"), rel("P", "z"), rel("P", "u"))))
	}
	f := some("w x y z", and(rel("P", "w"), parse(t, "w = a"), parts))
	if l := query(t, f, s, "a"); writeTuples(l) != "1 3" {
		t.Errorf("%s holds for %v", write(f), l)
	}
}
