package mean

import (
	"paraphrast/api"
	"paraphrast/formula"
)

// Cost returns the cost of f for n elements, by which it is decided whether f is evaluated at all.
func Cost(f api.Formula, n int) (int, api.Errno) {
	if !formula.Valid(f) {
		return 0, api.ErrForm
	}
	if n < 1 || n > api.MaxSize {
		return 0, api.ErrArg
	}
	return cost(f, n), api.OK
}

func cost(f api.Formula, n int) int {
	kids := 0
	for _, kid := range f.Kids {
		kids += cost(kid, n)
	}
	return min(1+times(rounds(f, n), kids), api.MaxCost)
}

// rounds returns how often the cost of f counts that of its kids.
func rounds(f api.Formula, n int) int {
	tuples := power(n, len(f.Vars))
	switch f.Kind {
	case api.FSome, api.FAll, api.FTc:
		return tuples
	case api.FLfp:
		return times(tuples, tuples)
	case api.FPfp:
		return times(64, tuples)
	case api.FSecond:
		return power(2, power(n, f.Arity))
	}
	return 1
}

// power returns n to the power of k, or MaxCost if that is less.
func power(n, k int) int {
	p := 1
	for range k {
		p *= n
		if p >= api.MaxCost {
			return api.MaxCost
		}
	}
	return p
}

// times returns the product of a and b, or MaxCost if that is less.
func times(a, b int) int {
	if b > 0 && a > api.MaxCost/b {
		return api.MaxCost
	}
	return a * b
}

// tooLarge reports whether f or a formula in it defines or guesses a relation that may have too many tuples.
func tooLarge(f api.Formula, n int) bool {
	for _, kid := range f.Kids {
		if tooLarge(kid, n) {
			return true
		}
	}
	switch f.Kind {
	case api.FLfp, api.FPfp:
		return power(n, len(f.Vars)) > api.MaxCells
	case api.FTc:
		return power(n, len(f.Vars)/2) > api.MaxCells
	case api.FSecond:
		return power(n, f.Arity) > api.MaxBits
	}
	return false
}
