package formula

import (
	"slices"

	"paraphrast/api"
)

// pair is two lists of kids of the same length that are to be compared.
type pair struct{ f, g []api.Formula }

// spot is where the two lists of a pair are in memory.
type spot struct {
	f, g *api.Formula
	kids int
}

// Same reports whether f and g are equal, field by field. They need not be valid: lists of kids may occur in many places, or even within themselves, so each two lists are compared only once.
func Same(f, g api.Formula) bool {
	work := []pair{{[]api.Formula{f}, []api.Formula{g}}}
	seen := map[spot]bool{}
	for len(work) > 0 {
		p := work[len(work)-1]
		work = work[:len(work)-1]
		at := spot{&p.f[0], &p.g[0], len(p.f)}
		if seen[at] {
			continue
		}
		seen[at] = true
		for i, kid := range p.f {
			other := p.g[i]
			if !alike(kid, other) {
				return false
			}
			if len(kid.Kids) > 0 {
				work = append(work, pair{kid.Kids, other.Kids})
			}
		}
	}
	return true
}

// alike reports whether f and g are equal but for what is in their kids.
func alike(f, g api.Formula) bool {
	return f.Kind == g.Kind && f.Arity == g.Arity && f.Name == g.Name &&
		slices.Equal(f.Vars, g.Vars) && slices.Equal(f.Args, g.Args) && len(f.Kids) == len(g.Kids)
}
