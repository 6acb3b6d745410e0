package shape

import "paraphrast/api"

// Power returns n to the power of k, the number of tuples of k elements out of n.
func Power(n, k int) (int, api.Errno) {
	if n < 1 || n > api.MaxSize || k < 0 || k > api.MaxArity {
		return 0, api.ErrArg
	}
	power := 1
	for range k {
		power *= n
		if power > api.MaxCells {
			return 0, api.ErrSize
		}
	}
	return power, api.OK
}

// Rank returns the number of tuples of the same length that precede t.
func Rank(n int, t []int) (int, api.Errno) {
	if _, e := Power(n, len(t)); e != api.OK {
		return 0, e
	}
	if !elements(t, n) {
		return 0, api.ErrArg
	}
	rank := 0
	for _, x := range t {
		rank = rank*n + x
	}
	return rank, api.OK
}

// Tuple returns the tuple of k elements out of n with this rank.
func Tuple(n, k, rank int) ([]int, api.Errno) {
	power, e := Power(n, k)
	if e != api.OK {
		return nil, e
	}
	if rank < 0 || rank >= power {
		return nil, api.ErrArg
	}
	t := make([]int, k)
	for i := k - 1; i >= 0; i-- {
		t[i] = rank % n
		rank /= n
	}
	return t, api.OK
}
