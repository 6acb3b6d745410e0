package shape

import (
	"strconv"
	"strings"

	"paraphrast/api"
)

// Text returns the textual form of s.
func Text(s api.Structure) (string, api.Errno) {
	if !Valid(s) {
		return "", api.ErrForm
	}
	var b strings.Builder
	b.WriteString(strconv.Itoa(s.Size))
	for _, r := range s.Rels {
		writeRel(&b, r)
	}
	if b.Len() > api.MaxText {
		return "", api.ErrSize
	}
	return b.String(), api.OK
}

func writeRel(b *strings.Builder, r api.Rel) {
	b.WriteString("; " + r.Name + "/" + strconv.Itoa(r.Arity))
	for _, t := range r.Tuples {
		b.WriteByte(' ')
		writeTuple(b, t)
	}
}

func writeTuple(b *strings.Builder, t []int) {
	if len(t) == 0 {
		b.WriteString("()")
	}
	for i, x := range t {
		if i > 0 {
			b.WriteByte(',')
		}
		b.WriteString(strconv.Itoa(x))
	}
}

// Parse returns the structure whose textual form is text.
func Parse(text string) (s api.Structure, err api.Errno) {
	if len(text) > api.MaxText {
		return api.Structure{}, api.ErrParse
	}
	defer func() {
		if recover() != nil {
			s, err = api.Structure{}, api.ErrParse
		}
	}()
	r := &reader{text: text}
	s = r.structure()
	if !Valid(s) {
		panic(api.ErrParse)
	}
	return s, api.OK
}

// reader reads a textual form from left to right. Its methods panic at the first syntax error. They leave it to Valid whether the parts fit each other: each structure has only one textual form that they accept.
type reader struct {
	text string
	at   int
}

func (r *reader) structure() api.Structure {
	s := api.Structure{Size: r.number()}
	for r.at < len(r.text) {
		s.Rels = append(s.Rels, r.relation())
	}
	return s
}

func (r *reader) relation() api.Rel {
	r.expect("; ")
	name := r.while(func(c byte) bool { return letter(c) || digit(c) })
	r.expect("/")
	rel := api.Rel{Name: name, Arity: r.number()}
	for r.skip(" ") {
		rel.Tuples = append(rel.Tuples, r.tuple())
	}
	return rel
}

func (r *reader) tuple() []int {
	if r.skip("()") {
		return []int{}
	}
	t := []int{r.number()}
	for r.skip(",") {
		t = append(t, r.number())
	}
	return t
}

func (r *reader) number() int {
	digits := r.while(digit)
	n, err := strconv.Atoi(digits)
	if err != nil || len(digits) > 1 && digits[0] == '0' {
		panic(api.ErrParse)
	}
	return n
}

// while reads the longest sequence of bytes of a class.
func (r *reader) while(class func(byte) bool) string {
	start := r.at
	for r.at < len(r.text) && class(r.text[r.at]) {
		r.at++
	}
	return r.text[start:r.at]
}

func (r *reader) expect(token string) {
	if !r.skip(token) {
		panic(api.ErrParse)
	}
}

// skip reads token if it comes next, and reports whether it did.
func (r *reader) skip(token string) bool {
	if !strings.HasPrefix(r.text[r.at:], token) {
		return false
	}
	r.at += len(token)
	return true
}
