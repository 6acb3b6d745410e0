package keep

import "slices"

// join is a way to search for values of the variables of a rule: those of one part have values from the beginning, the others get them in an order.
type join struct {
	start *part
	head  *part
	vars  int
	order []int
	tests [][]*part // for each number of variables of the order, the parts besides start that are decided once so many have values
	heads int       // how many of them decide which tuple the head is
}

// newJoin returns the join of a rule with these parts, the first of which is the head.
func newJoin(parts []*part, start *part, vars int) *join {
	j := &join{start: start, head: parts[0], vars: vars}
	when := make([]int, vars) // how many variables of the order have values once a variable has one
	// Where the head does not matter, the other values do not either, so its variables come first.
	for _, x := range parts {
		for _, v := range x.args {
			if !slices.Contains(start.args, v) && !slices.Contains(j.order, v) {
				j.order = append(j.order, v)
				when[v] = len(j.order)
			}
		}
	}
	decided := func(x *part) int {
		last := 0
		for _, v := range x.args {
			last = max(last, when[v])
		}
		return last
	}
	j.heads = decided(j.head)
	j.tests = make([][]*part, len(j.order)+1)
	for _, x := range parts {
		if x != start {
			j.tests[decided(x)] = append(j.tests[decided(x)], x)
		}
	}
	return j
}

// trial is a search that is going on.
type trial struct {
	*join
	size   int
	values []int
	meets  func(x *part, values []int) bool
	found  func(values []int) bool
}

// search calls found for the values with which start is t and all other parts meet a condition. If found returns true, it leaves out the other values with the same head; if start decides the head, it returns true then.
func (j *join) search(size int, t []int, meets func(x *part, values []int) bool, found func(values []int) bool) bool {
	values := make([]int, j.vars)
	for i, v := range j.start.args {
		values[v] = t[i]
	}
	for i, v := range j.start.args {
		if values[v] != t[i] {
			return false
		}
	}
	s := &trial{join: j, size: size, values: values, meets: meets, found: found}
	return s.extend(0)
}

// extend tries all values of the variables of the order behind the first ones, which have values. It returns true if the head is decided by these and found has returned true.
func (s *trial) extend(count int) bool {
	for _, x := range s.tests[count] {
		if !s.meets(x, s.values) {
			return false
		}
	}
	if count == len(s.order) {
		return s.found(s.values)
	}
	for x := range s.size {
		s.values[s.order[count]] = x
		if s.extend(count+1) && count >= s.heads {
			return true
		}
	}
	return false
}
