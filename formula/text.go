package formula

import (
	"strconv"
	"strings"

	"paraphrast/api"
)

// words are the words with which formulas begin, by their kinds; atoms begin with none.
var words = [api.FKinds]string{
	api.FNot:    "not",
	api.FAnd:    "and",
	api.FOr:     "or",
	api.FSome:   "some",
	api.FAll:    "all",
	api.FLfp:    "lfp",
	api.FPfp:    "pfp",
	api.FTc:     "tc",
	api.FSecond: "exists",
}

// Text returns the textual form of f.
func Text(f api.Formula) (string, api.Errno) {
	if !Valid(f) {
		return "", api.ErrForm
	}
	var b strings.Builder
	write(&b, f)
	if b.Len() > api.MaxText {
		return "", api.ErrSize
	}
	return b.String(), api.OK
}

func write(b *strings.Builder, f api.Formula) {
	if text := atom(f); text != "" {
		b.WriteString(text)
		return
	}
	b.WriteString(words[f.Kind] + "(" + head(f))
	for i, kid := range f.Kids {
		if i > 0 {
			b.WriteString(", ")
		}
		write(b, kid)
	}
	b.WriteByte(')')
	if len(f.Args) > 0 {
		b.WriteString(list(f.Args))
	}
}

// atom returns the textual form of a formula without kids, and nothing for any other.
func atom(f api.Formula) string {
	switch {
	case f.Kind == api.FRel:
		return f.Name + list(f.Args)
	case f.Kind == api.FEq:
		return f.Args[0] + " = " + f.Args[1]
	case f.Kind == api.FLess:
		return f.Args[0] + " < " + f.Args[1]
	case f.Kind == api.FAnd && len(f.Kids) == 0:
		return "true"
	case f.Kind == api.FOr && len(f.Kids) == 0:
		return "false"
	}
	return ""
}

func list(names []string) string {
	return "(" + strings.Join(names, " ") + ")"
}

// head returns what f binds, as it is written before the kid.
func head(f api.Formula) string {
	switch f.Kind {
	case api.FSome, api.FAll, api.FTc:
		return strings.Join(f.Vars, " ") + ": "
	case api.FLfp, api.FPfp:
		return f.Name + " " + strings.Join(f.Vars, " ") + ": "
	case api.FSecond:
		return f.Name + " " + strconv.Itoa(f.Arity) + ": "
	}
	return ""
}
