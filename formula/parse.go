package formula

import (
	"slices"
	"strconv"

	"paraphrast/api"
)

// Kinds of tokens, for those that are more than one: every word and every sign is a kind of its own. No token contains a blank, so none of them is one of these.
const (
	aName   = "a name"
	aNumber = "a number"
	theEnd  = "the end"
	noToken = "no token"
)

// token is a token of a text, and the index of its first byte.
type token struct {
	kind, text string
	at         int
}

// stuck is the index of a token that cannot continue.
type stuck int

// Parse returns the formula of a text; for a text that is none, the index of the first token that cannot continue.
func Parse(text string) (f api.Formula, at int, err api.Errno) {
	if len(text) > api.MaxText {
		return api.Formula{}, 0, api.ErrSize
	}
	defer func() {
		if i, is := recover().(stuck); is {
			f, at, err = api.Formula{}, int(i), api.ErrParse
		}
	}()
	p := &parser{text: text}
	f = p.formula()
	p.take(theEnd)
	if !Valid(f) {
		return api.Formula{}, 0, api.ErrForm
	}
	return f, 0, api.OK
}

// parser reads a text from left to right. Its methods panic at the first token that cannot continue: they accept only tokens after which some formula can still follow.
type parser struct {
	text string
	at   int
}

func (p *parser) formula() api.Formula {
	t := p.take(aName, "true", "false", "not", "and", "or", "some", "all", "lfp", "pfp", "tc", "exists")
	switch t.kind {
	case aName:
		return p.atom(t.text)
	case "true":
		return api.Formula{Kind: api.FAnd}
	case "false":
		return api.Formula{Kind: api.FOr}
	}
	p.take("(")
	f := api.Formula{Kind: kindOf(t.kind)}
	if binds(f.Kind) {
		f.Name = p.take(aName).text
	}
	switch f.Kind {
	case api.FSecond:
		f.Arity = p.number()
		p.take(":")
	case api.FSome, api.FAll, api.FLfp, api.FPfp, api.FTc:
		f.Vars = p.names(":")
	}
	f.Kids = p.kids(f.Kind)
	switch f.Kind {
	case api.FLfp, api.FPfp, api.FTc:
		p.take("(")
		f.Args = p.names(")")
	}
	return f
}

// atom reads what follows the name with which an atom begins.
func (p *parser) atom(name string) api.Formula {
	switch p.take("(", "=", "<").kind {
	case "=":
		return api.Formula{Kind: api.FEq, Args: []string{name, p.take(aName).text}}
	case "<":
		return api.Formula{Kind: api.FLess, Args: []string{name, p.take(aName).text}}
	}
	return api.Formula{Kind: api.FRel, Name: name, Args: p.names(")")}
}

// names reads any number of names, and the sign behind them.
func (p *parser) names(end string) []string {
	var list []string
	for {
		t := p.take(aName, end)
		if t.kind == end {
			return list
		}
		list = append(list, t.text)
	}
}

func (p *parser) number() int {
	n, _ := strconv.Atoi(p.take(aNumber).text)
	return n
}

// kids reads the kids of a formula of this kind, and the bracket behind them.
func (p *parser) kids(kind int) []api.Formula {
	if kind != api.FAnd && kind != api.FOr {
		kid := p.formula()
		p.take(")")
		return []api.Formula{kid}
	}
	if t := p.next(); t.kind == ")" {
		p.take(")")
		return nil
	}
	kids := []api.Formula{p.formula()}
	for p.take(",", ")").kind == "," {
		kid := p.formula()
		kids = append(kids, kid)
	}
	return kids
}

// take reads the next token, whose kind must be one of those accepted.
func (p *parser) take(accepted ...string) token {
	t := p.next()
	if !slices.Contains(accepted, t.kind) {
		panic(stuck(t.at))
	}
	p.at = t.at + len(t.text)
	return t
}

// next returns the next token without reading it.
func (p *parser) next() token {
	start := p.at
	for start < len(p.text) && (p.text[start] == ' ' || p.text[start] == '\n') {
		start++
	}
	if start == len(p.text) {
		return token{kind: theEnd, at: start}
	}
	end := start
	for end < len(p.text) && (letter(p.text[end]) || digit(p.text[end])) {
		end++
	}
	if end > start {
		text := p.text[start:end]
		return token{kind: classify(text), text: text, at: start}
	}
	// A byte that begins no token is a sign that is never accepted.
	sign := p.text[start : start+1]
	return token{kind: sign, text: sign, at: start}
}

// classify returns the kind of a token of letters and digits.
func classify(text string) string {
	switch {
	case reserved(text):
		return text
	case Name(text):
		return aName
	case number(text):
		return aNumber
	}
	return noToken
}

// number reports whether a token of letters and digits is a number of at most 2 digits without a leading zero.
func number(text string) bool {
	for _, c := range []byte(text) {
		if !digit(c) {
			return false
		}
	}
	return len(text) == 1 || len(text) == 2 && text[0] != '0'
}

// kindOf returns the kind of the formulas that begin with a word.
func kindOf(word string) int {
	for kind, w := range words {
		if w == word {
			return kind
		}
	}
	return api.FRel
}
