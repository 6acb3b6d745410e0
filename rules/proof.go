package rules

import (
	"slices"

	"paraphrast/api"
)

// proof returns the smallest proof of a tuple of a defined relation.
func (m *model) proof(t *table, rank int) api.Proof {
	best := t.best[rank]
	p := api.Proof{Rule: best.rule, Values: slices.Clone(best.values)}
	for _, c := range m.rules[best.rule].conds {
		if c.proved {
			p.Parts = append(p.Parts, m.proof(c.table, m.rank(c.place, best.values)))
		}
	}
	return p
}

// claim is what a proof is to prove: that the tuple of this rank is in the relation.
type claim struct {
	table *table
	rank  int
}

// visit is a proof whose Parts are being checked.
type visit struct {
	proof  *api.Proof
	claims []claim // of its Parts
	next   int     // the part that comes next
}

// proves reports whether p proves a claim. Proofs may share their parts, or even be parts of themselves, in which case they prove nothing.
func (m *model) proves(p *api.Proof, what claim) bool {
	var stack []visit
	proved := map[*api.Proof]bool{} // those that have been entered, and whether they have been left
	enter := func(p *api.Proof, what claim) bool {
		claims, fits := m.claims(p, what)
		if !fits {
			return false
		}
		if left, entered := proved[p]; entered {
			return left
		}
		proved[p] = false
		stack = append(stack, visit{proof: p, claims: claims})
		return true
	}
	if !enter(p, what) {
		return false
	}
	for len(stack) > 0 {
		v := &stack[len(stack)-1]
		if v.next == len(v.claims) {
			proved[v.proof] = true
			stack = stack[:len(stack)-1]
			continue
		}
		i := v.next
		v.next++
		if !enter(&v.proof.Parts[i], v.claims[i]) {
			return false
		}
	}
	return true
}

// claims returns what the Parts of p must prove, if p proves the claim then.
func (m *model) claims(p *api.Proof, what claim) ([]claim, bool) {
	if p.Rule < 0 || p.Rule >= len(m.rules) {
		return nil, false
	}
	r := m.rules[p.Rule]
	if len(p.Values) != r.vars || slices.ContainsFunc(p.Values, func(x int) bool { return x < 0 || x >= m.size }) {
		return nil, false
	}
	if what != (claim{r.head.table, m.rank(r.head, p.Values)}) {
		return nil, false
	}
	var l []claim
	for _, c := range r.conds {
		if !m.holds(c, p.Values) {
			return nil, false
		}
		if c.proved {
			l = append(l, claim{c.table, m.rank(c.place, p.Values)})
		}
	}
	return l, len(l) == len(p.Parts)
}
