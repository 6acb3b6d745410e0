package keep_test

import (
	"slices"
	"strconv"
	"strings"
	"testing"

	"paraphrast/api"
	"paraphrast/keep"
	"paraphrast/rules"
	"paraphrast/shape"
)

// paths is a program whose P are the paths along E.
const paths = "P(x y) :- E(x y). P(x y) :- E(x z), P(z y)."

// program returns the program of a text that must be one.
func program(t *testing.T, text string) []api.Rule {
	t.Helper()
	l, e := rules.Parse(text)
	if e != api.OK {
		t.Fatalf("Parse(%q) is error %d", text, e)
	}
	return l
}

// structure returns the structure of a text that must be one.
func structure(t *testing.T, text string) api.Structure {
	t.Helper()
	s, e := shape.Parse(text)
	if e != api.OK {
		t.Fatalf("Parse(%q) is error %d", text, e)
	}
	return s
}

// keeper returns a keeper of a program and a structure, both given as texts.
func keeper(t *testing.T, l, s string) *keep.Keeper {
	t.Helper()
	k, e := keep.New(program(t, l), structure(t, s))
	if e != api.OK || k == nil {
		t.Fatalf("New(%s, %s) is %v and error %d", l, s, k, e)
	}
	return k
}

// fact returns the fact of a text such as E 0,1.
func fact(text string) api.Fact {
	name, tuple, _ := strings.Cut(text, " ")
	f := api.Fact{Name: name}
	for _, x := range strings.FieldsFunc(tuple, func(r rune) bool { return r == ',' }) {
		n, _ := strconv.Atoi(x)
		f.Tuple = append(f.Tuple, n)
	}
	return f
}

// write returns the text of facts, in their order.
func write(facts []api.Fact) string {
	var l []string
	for _, f := range facts {
		var tuple []string
		for _, x := range f.Tuple {
			tuple = append(tuple, strconv.Itoa(x))
		}
		l = append(l, f.Name+" "+strings.Join(tuple, ","))
	}
	return strings.Join(l, "; ")
}

// put puts a fact in or out and checks what is added and removed.
func put(t *testing.T, k *keep.Keeper, text string, is bool, came, went string) {
	t.Helper()
	f := fact(text)
	a, r, e := k.Put(f.Name, f.Tuple, is)
	if write(a) != came || write(r) != went || e != api.OK {
		t.Errorf("Put(%s, %v) added %q and removed %q, error %d; want %q and %q", text, is, write(a), write(r), e, came, went)
	}
}

// now returns the text of Now.
func now(t *testing.T, k *keep.Keeper) string {
	t.Helper()
	text, e := shape.Text(k.Now())
	if e != api.OK {
		t.Fatalf("Now is not valid: %v", k.Now())
	}
	return text
}

// count checks the number of derivations.
func count(t *testing.T, k *keep.Keeper, text string, want int) {
	t.Helper()
	f := fact(text)
	if n, e := k.Count(f.Name, f.Tuple); n != want || e != api.OK {
		t.Errorf("Count(%s) is %d, error %d; want %d", text, n, e, want)
	}
}

// is checks Now.
func is(t *testing.T, k *keep.Keeper, want string) {
	t.Helper()
	if text := now(t, k); text != want {
		t.Errorf("Now is %s; want %s", text, want)
	}
}

// undo checks the error of Undo.
func undo(t *testing.T, k *keep.Keeper, want api.Errno) {
	t.Helper()
	if e := k.Undo(); e != want {
		t.Errorf("Undo is error %d; want %d", e, want)
	}
}

// tuples lists the tuples of k elements out of n, rising.
func tuples(n, k int) [][]int {
	l := [][]int{{}}
	for range k {
		var longer [][]int
		for _, tuple := range l {
			for x := range n {
				longer = append(longer, append(slices.Clone(tuple), x))
			}
		}
		l = longer
	}
	return l
}

// defined lists the names that a program defines, rising.
func defined(l []api.Rule) []string {
	var names []string
	for _, r := range l {
		names = append(names, r.Head.Name)
	}
	slices.Sort(names)
	return slices.Compact(names)
}

// facts lists the facts of a structure, in order.
func facts(s api.Structure) []api.Fact {
	var l []api.Fact
	for _, r := range s.Rels {
		for _, tuple := range r.Tuples {
			l = append(l, api.Fact{Name: r.Name, Tuple: tuple})
		}
	}
	return l
}

// less lists the facts of the first list that are not in the second one.
func less(a, b []api.Fact) []api.Fact {
	return slices.DeleteFunc(slices.Clone(a), func(f api.Fact) bool {
		return slices.ContainsFunc(b, func(g api.Fact) bool { return f.Name == g.Name && slices.Equal(f.Tuple, g.Tuple) })
	})
}
