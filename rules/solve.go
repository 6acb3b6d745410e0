package rules

import (
	"container/heap"
	"slices"

	"paraphrast/api"
	"paraphrast/shape"
)

// join is a way to try values for the variables of a rule: those of start have values when it begins, the others get them in an order.
type join struct {
	rule  *rule
	start []int
	order []int
	tests [][]cond // for each number of variables of the order, the conditions that are decided once so many have values
	head  int      // how many of them decide which tuple the head is
}

// prepare notes how the rule is applied: it begins with a tuple that is new in a relation of its level, if it uses such relations.
func (m *model) prepare(l api.Rule, r *rule) {
	own := m.level[l.Head.Name]
	begins := true
	for i, c := range l.Body {
		if level, defined := m.level[c.Name]; defined && level == own {
			t := r.conds[i].table
			t.next = append(t.next, newJoin(r, r.conds[i].at))
			begins = false
		}
	}
	if begins {
		m.first[own] = append(m.first[own], newJoin(r, nil))
	}
}

func newJoin(r *rule, start []int) *join {
	j := &join{rule: r, start: start}
	when := make([]int, r.vars) // how many variables of the order have values once a variable has one
	add := func(v int) {
		if !slices.Contains(start, v) && !slices.Contains(j.order, v) {
			j.order = append(j.order, v)
			when[v] = len(j.order)
		}
	}
	// Values that lead to a tuple that is known need not be completed, so the variables of the head come first.
	for _, v := range r.head.at {
		add(v)
	}
	for v := range r.vars {
		add(v)
	}
	j.head = latest(when, r.head.at)
	j.tests = make([][]cond, len(j.order)+1)
	for _, c := range r.conds {
		at := latest(when, c.at)
		j.tests[at] = append(j.tests[at], c)
	}
	return j
}

// latest returns the greatest of the numbers of some variables.
func latest(when []int, vars []int) int {
	last := 0
	for _, v := range vars {
		last = max(last, when[v])
	}
	return last
}

// fact is a tuple for which there is a proof of some size.
type fact struct {
	cost  int
	table *table
	rank  int
}

// queue is a heap of facts, with the smallest proof first.
type queue []fact

func (q queue) Len() int           { return len(q) }
func (q queue) Less(i, j int) bool { return q[i].cost < q[j].cost }
func (q queue) Swap(i, j int)      { q[i], q[j] = q[j], q[i] }
func (q *queue) Push(x any)        { *q = append(*q, x.(fact)) }

func (q *queue) Pop() any {
	last := len(*q) - 1
	f := (*q)[last]
	*q = (*q)[:last]
	return f
}

// solve completes the relations of a level. Tuples enter them in the order of their smallest proofs, so that these are known once all that they contain are.
func (m *model) solve(level int) {
	for _, j := range m.first[level] {
		m.search(j, make([]int, j.rule.vars), 0)
	}
	for len(m.queue) > 0 {
		f := heap.Pop(&m.queue).(fact)
		if f.table.has[f.rank] {
			continue
		}
		f.table.has[f.rank] = true
		tuple, _ := shape.Tuple(m.size, f.table.arity, f.rank)
		for _, j := range f.table.next {
			m.search(j, j.begin(tuple), 0)
		}
	}
}

// begin returns values that are tuple for the variables of start. A variable that occurs there twice may have another value; then it is left to the conditions whether it is possible.
func (j *join) begin(tuple []int) []int {
	values := make([]int, j.rule.vars)
	for i, v := range j.start {
		values[v] = tuple[i]
	}
	return values
}

// search applies the rule of j with all values that agree with those of start and of the first variables of the order.
func (m *model) search(j *join, values []int, count int) {
	for _, c := range j.tests[count] {
		if !m.holds(c, values) {
			return
		}
	}
	if count == j.head && j.rule.head.has[m.rank(j.rule.head, values)] {
		return
	}
	if count == len(j.order) {
		m.apply(j.rule, values)
		return
	}
	for x := range m.size {
		values[j.order[count]] = x
		m.search(j, values, count+1)
	}
}

// apply notes the proof of the head of r that begins with r and these values, if it is smaller than those before.
func (m *model) apply(r *rule, values []int) {
	cost := 1
	for _, c := range r.conds {
		if c.proved {
			cost = min(cost+c.best[m.rank(c.place, values)].cost, api.MaxParts+1)
		}
	}
	rank := m.rank(r.head, values)
	if old := r.head.best[rank].cost; old == 0 || cost < old {
		r.head.best[rank] = step{cost, r.number, slices.Clone(values)}
		heap.Push(&m.queue, fact{cost, r.head.table, rank})
	}
}
