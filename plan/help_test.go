package plan_test

import (
	"math/rand"
	"slices"
	"strconv"
	"strings"
	"testing"

	"paraphrast/api"
	"paraphrast/formula"
	"paraphrast/mean"
	"paraphrast/plan"
	"paraphrast/shape"
)

// parse returns the formula of a text that must be one.
func parse(t *testing.T, text string) api.Formula {
	t.Helper()
	f, at, e := formula.Parse(text)
	if e != api.OK {
		t.Fatalf("Parse(%q) is error %d at %d", text, e, at)
	}
	return f
}

// structure returns the structure of a text that must be one.
func structure(t *testing.T, text string) api.Structure {
	t.Helper()
	s, e := shape.Parse(text)
	if e != api.OK {
		t.Fatalf("Parse(%q) is error %d", text, e)
	}
	return s
}

// write returns the text of f, as far as that is short enough to be read.
func write(f api.Formula) string {
	text, e := formula.Text(f)
	if e != api.OK {
		return "a formula of error " + strconv.Itoa(int(e))
	}
	if len(text) > 2000 {
		return text[:2000] + ".."
	}
	return text
}

func names(words string) []string {
	return strings.Fields(words)
}

func numbered(letter string, n int) []string {
	var l []string
	for i := range n {
		l = append(l, letter+strconv.Itoa(i))
	}
	return l
}

func rel(name string, width int) api.Plan {
	return api.Plan{Kind: api.PRel, Name: name, Width: width}
}

func all(width int) api.Plan {
	return api.Plan{Kind: api.PAll, Width: width}
}

func same(i, j int, p api.Plan) api.Plan {
	return api.Plan{Kind: api.PSame, I: i, J: j, Kids: []api.Plan{p}}
}

func less(i, j int, p api.Plan) api.Plan {
	return api.Plan{Kind: api.PLess, I: i, J: j, Kids: []api.Plan{p}}
}

func join(p, q api.Plan) api.Plan {
	return api.Plan{Kind: api.PJoin, Kids: []api.Plan{p, q}}
}

func project(p api.Plan, cols ...int) api.Plan {
	return api.Plan{Kind: api.PProject, Cols: cols, Kids: []api.Plan{p}}
}

func union(p, q api.Plan) api.Plan {
	return api.Plan{Kind: api.PUnion, Kids: []api.Plan{p, q}}
}

func minus(p, q api.Plan) api.Plan {
	return api.Plan{Kind: api.PMinus, Kids: []api.Plan{p, q}}
}

// show writes a plan that need not be valid, as far as it is short enough to be read.
func show(p api.Plan) string {
	var b strings.Builder
	showTo(&b, p, 0)
	if b.Len() > 2000 {
		return b.String()[:2000] + ".."
	}
	return b.String()
}

func showTo(b *strings.Builder, p api.Plan, depth int) {
	words := []string{"rel", "all", "same", "less", "join", "project", "union", "minus"}
	if p.Kind >= 0 && p.Kind < len(words) {
		b.WriteString(words[p.Kind])
	} else {
		b.WriteString(strconv.Itoa(p.Kind))
	}
	b.WriteString("[" + p.Name)
	for _, n := range append([]int{p.Width, p.I, p.J}, p.Cols...) {
		b.WriteString(" " + strconv.Itoa(n))
	}
	b.WriteString("](")
	for _, kid := range p.Kids {
		if depth < 1000 && b.Len() < 3000 {
			showTo(b, kid, depth+1)
		}
	}
	b.WriteString(")")
}

// chain returns p within this number of plans of a kind that leaves it as it is.
func chain(levels int, p api.Plan) api.Plan {
	for range levels {
		p = same(0, 0, p)
	}
	return p
}

// leaves returns the union of n plans p, in a tree that is as flat as possible; it contains 2 n - 1 plans.
func leaves(n int, p api.Plan) api.Plan {
	if n == 1 {
		return p
	}
	return union(leaves(n/2, p), leaves(n-n/2, p))
}

// equal says whether two plans are the same, for plans that are trees.
func equal(p, q api.Plan) bool {
	return p.Kind == q.Kind && p.Width == q.Width && p.I == q.I && p.J == q.J && p.Name == q.Name &&
		slices.Equal(p.Cols, q.Cols) && slices.EqualFunc(p.Kids, q.Kids, equal)
}

func clone(p api.Plan) api.Plan {
	p.Cols = append([]int{}, p.Cols...)
	kids := []api.Plan{}
	for _, kid := range p.Kids {
		kids = append(kids, clone(kid))
	}
	p.Kids = kids
	return p
}

// parts lists p and all plans in it.
func parts(p api.Plan) []api.Plan {
	l := []api.Plan{p}
	for _, kid := range p.Kids {
		l = append(l, parts(kid)...)
	}
	return l
}

func depth(p api.Plan) int {
	d := 0
	for _, kid := range p.Kids {
		d = max(d, depth(kid))
	}
	return d + 1
}

// maker makes plans, formulas and structures at random.
type maker struct{ *rand.Rand }

func newMaker(seed int64) maker {
	return maker{rand.New(rand.NewSource(seed))}
}

func symbols() []api.Symbol {
	return []api.Symbol{{Name: "P", Arity: 1}, {Name: "E", Arity: 2}, {Name: "Q"}, {Name: "T", Arity: 3}}
}

func (m maker) structure(n int) api.Structure {
	s := api.Structure{Size: n}
	for _, x := range symbols() {
		often := m.Intn(5)
		r := api.Rel{Name: x.Name, Arity: x.Arity}
		for _, tuple := range tuples(n, x.Arity) {
			if m.Intn(5) < often {
				r.Tuples = append(r.Tuples, tuple)
			}
		}
		s.Rels = append(s.Rels, r)
	}
	return s
}

// tuples lists the tuples of k elements out of n, rising.
func tuples(n, k int) [][]int {
	l := [][]int{{}}
	for range k {
		var longer [][]int
		for _, tuple := range l {
			for x := range n {
				longer = append(longer, append(slices.Clone(tuple), x))
			}
		}
		l = longer
	}
	return l
}

// plan makes a valid plan of this width that is at most this deep (3 levels more where no shallower one has the width).
func (m maker) plan(depth, width int) api.Plan {
	if depth <= 1 {
		return m.leaf(width)
	}
	switch m.Intn(10) {
	case 0, 1:
		if width > 0 {
			return same(m.Intn(width), m.Intn(width), m.plan(depth-1, width))
		}
	case 2:
		if width > 0 {
			return less(m.Intn(width), m.Intn(width), m.plan(depth-1, width))
		}
	case 3, 4:
		left := m.Intn(width + 1)
		return join(m.plan(depth-1, left), m.plan(depth-1, width-left))
	case 5, 6, 7:
		return m.projection(depth, width)
	case 8:
		return union(m.plan(depth-1, width), m.plan(depth-1, width))
	case 9:
		return minus(m.plan(depth-1, width), m.plan(depth-1, width))
	}
	return m.leaf(width)
}

func (m maker) projection(depth, width int) api.Plan {
	kid := min(m.Intn(5), 4)
	if width > 0 {
		kid = max(kid, 1)
	}
	var cols []int
	for c := range width {
		if m.Intn(3) == 0 {
			cols = append(cols, c%kid)
		} else {
			cols = append(cols, m.Intn(kid))
		}
	}
	return project(m.plan(depth-1, kid), cols...)
}

func (m maker) leaf(width int) api.Plan {
	for _, x := range symbols() {
		if x.Arity == width && m.Intn(4) > 0 {
			return rel(x.Name, width)
		}
	}
	if width > 3 && m.Intn(2) == 0 {
		return join(rel("E", 2), m.leaf(width-2))
	}
	return all(width)
}

// plans returns n plans.
func (m maker) plans(n int) []api.Plan {
	var l []api.Plan
	for range n {
		l = append(l, m.plan(1+m.Intn(6), m.Intn(5)))
	}
	return l
}

// formula makes a first-order formula.
func (m maker) formula(depth int, vars string) api.Formula {
	if depth <= 1 {
		return m.atom(vars)
	}
	kid := m.formula(depth-1, vars)
	switch kind := m.Intn(api.FKinds); kind {
	case api.FNot:
		return api.Formula{Kind: kind, Kids: []api.Formula{kid}}
	case api.FAnd, api.FOr:
		kids := []api.Formula{m.formula(depth-2, vars), kid, m.formula(depth-1, vars)}
		return api.Formula{Kind: kind, Kids: kids[:m.Intn(4)]}
	case api.FSome, api.FAll:
		l := names(vars)
		m.Shuffle(len(l), func(i, j int) { l[i], l[j] = l[j], l[i] })
		return api.Formula{Kind: kind, Vars: l[:1+m.Intn(2)], Kids: []api.Formula{kid}}
	case api.FRel, api.FEq, api.FLess:
		return m.atom(vars)
	}
	return kid
}

func (m maker) atom(vars string) api.Formula {
	f := api.Formula{Kind: m.Intn(5)}
	arity := 2
	if f.Kind != api.FEq && f.Kind != api.FLess {
		x := symbols()[m.Intn(len(symbols()))]
		f.Kind, f.Name, arity = api.FRel, x.Name, x.Arity
	}
	for range arity {
		l := names(vars)
		f.Args = append(f.Args, l[m.Intn(len(l))])
	}
	return f
}

// run returns the value of a plan that must have one.
func run(t *testing.T, p api.Plan, s api.Structure) [][]int {
	t.Helper()
	l, e := plan.Run(p, s)
	if e != api.OK {
		t.Fatalf("Run(%s, %v) is error %d", show(p), s, e)
	}
	return l
}

// query returns the values for which a formula holds, or false if it is too large for Query.
func query(t *testing.T, f api.Formula, s api.Structure, vars []string) ([][]int, bool) {
	t.Helper()
	l, e := mean.Query(f, s, vars)
	if e != api.OK && e != api.ErrSize {
		t.Fatalf("Query(%s, %v, %q) is error %d", write(f), s, vars, e)
	}
	return l, e == api.OK
}

func equalTuples(a, b [][]int) bool {
	return slices.EqualFunc(a, b, slices.Equal[[]int])
}

// wantTuples fails unless a result is this list of tuples.
func wantTuples(t *testing.T, what string, got [][]int, e api.Errno, want [][]int) {
	t.Helper()
	if e != api.OK || !equalTuples(got, want) {
		t.Errorf("%s is %v, error %d, instead of %v", what, got, e, want)
	}
}

// wantError fails unless a result is this error and nothing else.
func wantError(t *testing.T, what string, zero bool, e, want api.Errno) {
	t.Helper()
	if e != want || !zero {
		t.Errorf("%s is error %d instead of %d, with no other result: %v", what, e, want, zero)
	}
}

func zeroPlan(p api.Plan) bool {
	return equal(p, api.Plan{})
}

func zeroFormula(f api.Formula) bool {
	return formula.Same(f, api.Formula{})
}
