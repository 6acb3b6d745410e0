package shape

import (
	"slices"

	"paraphrast/api"
)

// Valid reports whether s is valid: its size, its relations and their tuples are within the limits and in order.
func Valid(s api.Structure) bool {
	if s.Size < 1 || s.Size > api.MaxSize || len(s.Rels) > api.MaxRels {
		return false
	}
	names := map[string]bool{}
	for _, r := range s.Rels {
		if names[r.Name] || !validRel(r, s.Size) {
			return false
		}
		names[r.Name] = true
	}
	return true
}

// validRel reports whether r may be a relation of a structure with n elements.
func validRel(r api.Rel, n int) bool {
	if _, e := Power(n, r.Arity); e != api.OK || !Name(r.Name) {
		return false
	}
	for i, t := range r.Tuples {
		if len(t) != r.Arity || !elements(t, n) {
			return false
		}
		if i > 0 && slices.Compare(r.Tuples[i-1], t) >= 0 {
			return false
		}
	}
	return true
}

// elements reports whether all components of t are from 0 to n - 1.
func elements(t []int, n int) bool {
	for _, x := range t {
		if x < 0 || x >= n {
			return false
		}
	}
	return true
}

// Name reports whether s is a name.
func Name(s string) bool {
	if s == "" || len(s) > api.MaxName || !letter(s[0]) {
		return false
	}
	for _, c := range []byte(s) {
		if !letter(c) && !digit(c) {
			return false
		}
	}
	return !reserved(s)
}

func letter(c byte) bool {
	return 'a' <= c && c <= 'z' || 'A' <= c && c <= 'Z'
}

func digit(c byte) bool {
	return '0' <= c && c <= '9'
}

// reserved reports whether s is a word of the language of formulas.
func reserved(s string) bool {
	switch s {
	case "and", "or", "not", "some", "all", "lfp", "pfp", "tc", "exists", "true", "false":
		return true
	}
	return false
}
