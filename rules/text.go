package rules

import (
	"strings"

	"paraphrast/api"
	"paraphrast/formula"
)

// Text returns the textual form of a program.
func Text(l []api.Rule) (string, api.Errno) {
	if !Valid(l) {
		return "", api.ErrForm
	}
	var b strings.Builder
	for _, r := range l {
		write(&b, r)
	}
	if b.Len() > api.MaxText {
		return "", api.ErrSize
	}
	return b.String(), api.OK
}

func write(b *strings.Builder, r api.Rule) {
	b.WriteString(atom(r.Head))
	for i, c := range r.Body {
		if i == 0 {
			b.WriteString(" :- ")
		} else {
			b.WriteString(", ")
		}
		if c.Neg {
			b.WriteString("not ")
		}
		b.WriteString(condition(c))
	}
	b.WriteString(".\n")
}

func atom(a api.Atom) string {
	return a.Name + "(" + strings.Join(a.Args, " ") + ")"
}

// condition returns the textual form of a condition without its negation.
func condition(c api.Cond) string {
	switch c.Kind {
	case api.FEq:
		return c.Args[0] + " = " + c.Args[1]
	case api.FLess:
		return c.Args[0] + " < " + c.Args[1]
	}
	return atom(c.Atom)
}

// syntaxError is what the methods of a reader panic with.
type syntaxError struct{}

// Parse returns the program of a text.
func Parse(s string) (l []api.Rule, e api.Errno) {
	if len(s) > api.MaxText {
		return nil, api.ErrSize
	}
	defer func() {
		if _, is := recover().(syntaxError); is {
			l, e = nil, api.ErrParse
		}
	}()
	r := &reader{text: s}
	for r.next() != "" {
		l = append(l, r.rule())
	}
	if !Valid(l) {
		return nil, api.ErrForm
	}
	return l, api.OK
}

// reader reads a text from left to right. Its methods panic at the first syntax error.
type reader struct {
	text string
	at   int // the blanks before the next token, if there are any
}

func (r *reader) rule() api.Rule {
	var rule api.Rule
	name := r.name()
	rule.Head = r.atom(name)
	if r.take(":-", ".") == "." {
		return rule
	}
	for {
		rule.Body = append(rule.Body, r.condition())
		if r.take(",", ".") == "." {
			return rule
		}
	}
}

func (r *reader) condition() api.Cond {
	var c api.Cond
	if r.next() == "not" {
		c.Neg = true
		r.take("not")
	}
	name := r.name()
	switch r.next() {
	case "=":
		c.Kind = api.FEq
	case "<":
		c.Kind = api.FLess
	default:
		c.Atom = r.atom(name)
		return c
	}
	r.take("=", "<")
	c.Args = []string{name, r.name()}
	return c
}

// atom reads what follows the name of a relation.
func (r *reader) atom(name string) api.Atom {
	a := api.Atom{Name: name}
	r.take("(")
	for r.next() != ")" {
		a.Args = append(a.Args, r.name())
	}
	r.take(")")
	return a
}

// name reads a name.
func (r *reader) name() string {
	token := r.next()
	if !formula.Name(token) {
		panic(syntaxError{})
	}
	return r.take(token)
}

// take reads the next token, which must be one of those accepted.
func (r *reader) take(accepted ...string) string {
	token := r.next()
	for _, a := range accepted {
		if a == token {
			r.at += r.blanks() + len(token)
			return token
		}
	}
	panic(syntaxError{})
}

// next returns the next token without reading it, and nothing at the end of the text. A byte that begins no token is one that is never accepted.
func (r *reader) next() string {
	rest := r.text[r.at+r.blanks():]
	end := 0
	for end < len(rest) && alphanumeric(rest[end]) {
		end++
	}
	switch {
	case end > 0:
		return rest[:end]
	case strings.HasPrefix(rest, ":-"):
		return ":-"
	}
	return rest[:min(1, len(rest))]
}

// blanks returns the number of blanks before the next token.
func (r *reader) blanks() int {
	rest := r.text[r.at:]
	return len(rest) - len(strings.TrimLeft(rest, " \n"))
}

// alphanumeric reports whether c belongs to tokens of several characters.
func alphanumeric(c byte) bool {
	return 'a' <= c && c <= 'z' || 'A' <= c && c <= 'Z' || '0' <= c && c <= '9'
}
