package shape_test

import (
	"math"
	"testing"

	"paraphrast/api"
	"paraphrast/shape"
)

func extremes() []int {
	return []int{math.MinInt, math.MinInt32, -1, 65, 1 << 32, 1 << 62, math.MaxInt}
}

func TestPower(t *testing.T) {
	for n := -2; n <= 70; n++ {
		for k := -2; k <= 16; k++ {
			want, wantErr := 0, api.OK
			exact := math.Pow(float64(n), float64(k))
			switch {
			case n < 1 || n > 64 || k < 0 || k > 12:
				wantErr = api.ErrArg
			case exact > 4096:
				wantErr = api.ErrSize
			default:
				want = int(exact)
			}
			if p, e := shape.Power(n, k); p != want || e != wantErr {
				t.Errorf("Power(%d, %d) is %d, error %d, instead of %d, error %d", n, k, p, e, want, wantErr)
			}
		}
	}
	for _, x := range extremes() {
		for _, y := range []int{0, 1, 12, x} {
			if p, e := shape.Power(x, y); p != 0 || e != api.ErrArg {
				t.Errorf("Power(%d, %d) is %d, error %d", x, y, p, e)
			}
			if p, e := shape.Power(1, x); p != 0 || e != api.ErrArg {
				t.Errorf("Power(1, %d) is %d, error %d", x, p, e)
			}
		}
	}
}

// TestRanksAndTuples is promise P1.1, for every size and every arity within the limits.
func TestRanksAndTuples(t *testing.T) {
	for n := 1; n <= 64; n++ {
		for k := 0; k <= 12 && math.Pow(float64(n), float64(k)) <= 4096; k++ {
			tuples := allTuples(n, k)
			for i, tuple := range tuples {
				if r, e := shape.Rank(n, tuple); r != i || e != api.OK {
					t.Fatalf("Rank(%d, %v) is %d, error %d, instead of %d", n, tuple, r, e, i)
				}
				if x, e := shape.Tuple(n, k, i); !sameInts(x, tuple) || e != api.OK {
					t.Fatalf("Tuple(%d, %d, %d) is %v, error %d, instead of %v", n, k, i, x, e, tuple)
				}
			}
			for _, rank := range append(extremes()[:3], len(tuples), math.MaxInt) {
				wantNoTuple(t, n, k, rank, api.ErrArg)
			}
		}
	}
}

func wantNoTuple(t *testing.T, n, k, rank int, want api.Errno) {
	t.Helper()
	if x, e := shape.Tuple(n, k, rank); len(x) != 0 || e != want {
		t.Errorf("Tuple(%d, %d, %d) is %v, error %d, instead of error %d", n, k, rank, x, e, want)
	}
}

func TestTupleErrors(t *testing.T) {
	for _, x := range append(extremes(), 0) {
		wantNoTuple(t, x, 1, 0, api.ErrArg)
	}
	for _, x := range append(extremes(), 13) {
		wantNoTuple(t, 1, x, 0, api.ErrArg)
	}
	wantNoTuple(t, 64, 3, 0, api.ErrSize)
	wantNoTuple(t, 2, 12, 4096, api.ErrArg)
	// The errors of Power come before the one of the rank.
	wantNoTuple(t, 64, 3, -1, api.ErrSize)
	wantNoTuple(t, 5, 6, math.MaxInt, api.ErrSize)
}

func TestRankErrors(t *testing.T) {
	cases := []struct {
		n     int
		tuple []int
		want  api.Errno
	}{
		{0, nil, api.ErrArg},
		{-1, []int{0}, api.ErrArg},
		{65, []int{0}, api.ErrArg},
		{math.MaxInt, []int{0}, api.ErrArg},
		{1, make([]int, 13), api.ErrArg},
		{64, make([]int, 13), api.ErrArg},
		{64, make([]int, 3), api.ErrSize},
		{3, make([]int, 8), api.ErrSize},
		{3, []int{3}, api.ErrArg},
		{3, []int{-1}, api.ErrArg},
		{3, []int{0, 3}, api.ErrArg},
		{3, []int{3, 0}, api.ErrArg},
		{3, []int{2, -1, 2}, api.ErrArg},
		{3, []int{math.MinInt, math.MaxInt}, api.ErrArg},
		{64, []int{64, 64, 64}, api.ErrSize},
	}
	for _, c := range cases {
		if r, e := shape.Rank(c.n, c.tuple); r != 0 || e != c.want {
			t.Errorf("Rank(%d, %v) is %d, error %d, instead of error %d", c.n, c.tuple, r, e, c.want)
		}
	}
}

func TestRankAtTheLimits(t *testing.T) {
	if r, e := shape.Rank(1, make([]int, 12)); r != 0 || e != api.OK {
		t.Errorf("the rank of twelve zeros is %d, error %d", r, e)
	}
	if r, e := shape.Rank(64, []int{63, 63}); r != 4095 || e != api.OK {
		t.Errorf("the rank of (63, 63) is %d, error %d", r, e)
	}
	if r, e := shape.Rank(64, nil); r != 0 || e != api.OK {
		t.Errorf("the rank of the empty tuple is %d, error %d", r, e)
	}
}
