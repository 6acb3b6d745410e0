package mean_test

import (
	"math"
	"strings"
	"testing"

	"paraphrast/api"
	"paraphrast/mean"
)

func wantCost(t *testing.T, f api.Formula, n, want int, wantErr api.Errno) {
	t.Helper()
	if c, e := mean.Cost(f, n); c != want || e != wantErr {
		t.Errorf("Cost(%s, %d) is %d, error %d, instead of %d, error %d", write(f), n, c, e, want, wantErr)
	}
}

func TestCost(t *testing.T) {
	for text, want := range map[string]int{
		"true":                                 1,
		"false":                                1,
		"Q()":                                  1,
		"T(x y z)":                             1,
		"x = y":                                1,
		"x < y":                                1,
		"not(x < y)":                           2,
		"and(x = y, not(x = y), P(x))":         5,
		"or(true, and(true))":                  4,
		"some(x: true)":                        4,
		"all(x: true)":                         4,
		"some(x y: not(P(x)))":                 19,
		"all(x y z: and(P(x), P(y), P(z)))":    109,
		"lfp(R x: R(x))(a)":                    10,
		"lfp(R x y: and(R(x y), E(x y)))(a b)": 244,
		"pfp(R x: R(x))(a)":                    193,
		"pfp(R x y: not(R(x y)))(a b)":         1153,
		"tc(x y: E(x y))(a b)":                 10,
		"tc(x y u v: not(E(x y)))(a b c d)":    163,
		"exists(R 0: R())":                     3,
		"exists(R 1: not(R(x)))":               17,
		"exists(R 2: R(x x))":                  513,
		"exists(R 3: R(x x x))":                1<<27 + 1,
		"exists(R 4: R(x x x x))":              1 << 40,
		"some(x: lfp(R x: some(y: R(y)))(x))":  112,
	} {
		wantCost(t, parse(t, text), 3, want, api.OK)
	}
	for n, want := range map[int]int{1: 1<<1 + 1, 2: 1<<2 + 1, 39: 1<<39 + 1, 40: 1 << 40, 41: 1 << 40, 64: 1 << 40} {
		wantCost(t, exists("R", 1, and()), n, want, api.OK)
	}
}

func TestCostErrors(t *testing.T) {
	for _, n := range []int{math.MinInt, -1, 0, 65, math.MaxInt} {
		wantCost(t, and(), n, 0, api.ErrArg)
		wantCost(t, api.Formula{}, n, 0, api.ErrForm)
		wantCost(t, defined(api.FLfp, "R", "x", not(rel("R", "x")), "x"), n, 0, api.ErrForm)
	}
	wantCost(t, api.Formula{}, 1, 0, api.ErrForm)
	wantCost(t, and(), 1, 1, api.OK)
	wantCost(t, and(), 64, 1, api.OK)
}

// TestCostOfAllSizes compares the cost with the formulas of the chapter, up to where it ends.
func TestCostOfAllSizes(t *testing.T) {
	m := newMaker(9)
	most := 0
	for range 3000 {
		f := m.formula(1 + m.Intn(9))
		for _, n := range []int{1, 2, 3, 5, 16, 40, 41, 64} {
			c, e := mean.Cost(f, n)
			if e == api.ErrForm {
				break
			}
			wantCost(t, f, n, int(cost(f, n).Int64()), api.OK)
			if c == api.MaxCost {
				most++
			}
		}
	}
	if most < 500 {
		t.Errorf("only %d costs are as large as possible", most)
	}
}

// nested returns a formula with k variables one within the other, whose cost for 2 elements is 2^(k+1) - 1.
func nested(k int) api.Formula {
	f := and()
	for range k {
		f = some("x", f)
	}
	return f
}

func TestCostLimit(t *testing.T) {
	s := api.Structure{Size: 2}
	wantCost(t, nested(39), 2, 1<<40-1, api.OK)
	wantHolds(t, nested(39), s, "", nil, true)
	wantCost(t, not(nested(39)), 2, 1<<40, api.OK)
	wantError(t, not(nested(39)), s, nil, nil, api.ErrSize)
	wantCost(t, nested(40), 2, 1<<40, api.OK)
	wantError(t, nested(40), s, nil, nil, api.ErrSize)
	wantHolds(t, nested(40), api.Structure{Size: 1}, "", nil, true)
	// A product of 2^80, and sums of costs that are as large as possible.
	twelve := strings.Join(names("a b c d e f g h i j k l"), " ")
	large := all(twelve, some(twelve, and()))
	wantCost(t, large, 64, 1<<40, api.OK)
	wantCost(t, and(large, large, or(large, large)), 64, 1<<40, api.OK)
	wantCost(t, defined(api.FLfp, "R", twelve, large, twelve), 64, 1<<40, api.OK)
	wantCost(t, defined(api.FPfp, "R", twelve, and(), twelve), 64, 1<<40, api.OK)
	wantCost(t, exists("R", 12, and()), 64, 1<<40, api.OK)
	wantCost(t, tc(twelve+" m n o p q r s t u v w x", and(), twelve+" "+twelve), 64, 1<<40, api.OK)
	wantCost(t, tc(twelve+" m n o p q r s t u v w x", and(), twelve+" "+twelve), 3, 282429536482, api.OK)
	wide := and()
	for range api.MaxNodes/3 - 1 {
		wide.Kids = append(wide.Kids, some(twelve, or()), or())
	}
	wantCost(t, wide, 64, 1<<40, api.OK)
}
