package mean

// Limits of what is kept: the words of memory in all, and the results of one part of a formula.
const (
	mostWords   = 1 << 24
	mostResults = 1 << 18
)

// result is a result that is kept, and the turn in which it was computed.
type result[T any] struct {
	turn  int
	value T
}

// keep returns a function with the results of compute, which depend on nothing but what it uses. If anything else is bound around here, compute would be asked for the same result again; each result is then kept, by the values of the variables that are used, until the next turn, which comes when a relation changes that is used. A result takes this many words beside its place in the table; where there is no room for it, it is computed again.
func keep[T any](c *scope, uses []*binding, words int, compute func() T) func() T {
	var vars []*binding
	turn := 1
	for _, b := range uses {
		if b.relation == nil {
			vars = append(vars, b)
		} else {
			b.relation.forget = append(b.relation.forget, func() { turn++ })
		}
	}
	size := power(c.size, len(vars))
	if len(uses) == c.around || size > mostResults {
		return compute
	}
	var results []result[T]
	return func() T {
		if results == nil {
			// A place is at most 4 words: a turn and a slice.
			if !c.take(4 * size) {
				return compute()
			}
			results = make([]result[T], size)
		}
		r := &results[c.rank(vars)]
		if r.turn == turn {
			return r.value
		}
		value := compute()
		if r.turn > 0 || c.take(words) {
			*r = result[T]{turn, value}
		}
		return value
	}
}

// take reports whether there is room for this many words, and takes it.
func (c *scope) take(words int) bool {
	if words > c.room {
		return false
	}
	c.room -= words
	return true
}
