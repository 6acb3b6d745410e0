package formula

import (
	"slices"

	"paraphrast/api"
)

// Valid reports whether f is valid: each formula in it has the fields of its kind, each name of a relation is used as what binds it allows, and the whole is within the limits.
func Valid(f api.Formula) bool {
	_, ok := look(f)
	return ok
}

// Name reports whether s is a name.
func Name(s string) bool {
	if s == "" || len(s) > api.MaxName || !letter(s[0]) {
		return false
	}
	for _, c := range []byte(s) {
		if !letter(c) && !digit(c) {
			return false
		}
	}
	return !reserved(s)
}

func letter(c byte) bool {
	return 'a' <= c && c <= 'z' || 'A' <= c && c <= 'Z'
}

func digit(c byte) bool {
	return '0' <= c && c <= '9'
}

// reserved reports whether s is a word of the language of formulas.
func reserved(s string) bool {
	switch s {
	case "and", "or", "not", "some", "all", "lfp", "pfp", "tc", "exists", "true", "false":
		return true
	}
	return false
}

// fits reports whether the fields of f are as its kind requires, whatever its kids are.
func fits(f api.Formula) bool {
	return numbers(f) && named(f) && names(f.Args) && names(f.Vars) && different(f.Vars)
}

// numbers reports whether f has as many variables, arguments and kids as its kind requires. Once it does, their lists are short, except for that of the kids.
func numbers(f api.Formula) bool {
	vars, args, kids := len(f.Vars), len(f.Args), len(f.Kids)
	switch f.Kind {
	case api.FRel:
		return vars == 0 && args <= api.MaxArity && kids == 0
	case api.FEq, api.FLess:
		return vars == 0 && args == 2 && kids == 0
	case api.FNot, api.FSecond:
		return vars == 0 && args == 0 && kids == 1
	case api.FAnd, api.FOr:
		return vars == 0 && args == 0
	case api.FSome, api.FAll:
		return 1 <= vars && vars <= api.MaxArity && args == 0 && kids == 1
	case api.FLfp, api.FPfp:
		return 1 <= vars && vars <= api.MaxArity && args == vars && kids == 1
	case api.FTc:
		return 2 <= vars && vars <= 2*api.MaxArity && vars%2 == 0 && args == vars && kids == 1
	}
	return false
}

// named reports whether f has a name of a relation and an arity as its kind requires.
func named(f api.Formula) bool {
	if f.Kind == api.FSecond {
		return Name(f.Name) && 0 <= f.Arity && f.Arity <= api.MaxArity
	}
	if f.Kind == api.FRel || binds(f.Kind) {
		return Name(f.Name) && f.Arity == 0
	}
	return f.Name == "" && f.Arity == 0
}

// binds reports whether formulas of this kind bind the name of a relation.
func binds(kind int) bool {
	return kind == api.FLfp || kind == api.FPfp || kind == api.FSecond
}

func names(list []string) bool {
	for _, s := range list {
		if !Name(s) {
			return false
		}
	}
	return true
}

func different(list []string) bool {
	for i, s := range list {
		if slices.Contains(list[:i], s) {
			return false
		}
	}
	return true
}
