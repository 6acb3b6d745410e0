package fix

import (
	"strconv"

	"paraphrast/api"
)

// namer gives names that some formulas do not have, neither for variables nor for relations.
type namer struct {
	known map[string]bool
}

func newNamer(fs ...api.Formula) namer {
	n := namer{map[string]bool{}}
	for _, f := range fs {
		n.read(f)
	}
	return n
}

// read notes the names that f has.
func (n namer) read(f api.Formula) {
	n.known[f.Name] = true
	n.note(f.Vars)
	n.note(f.Args)
	for _, kid := range f.Kids {
		n.read(kid)
	}
}

func (n namer) note(names []string) {
	for _, name := range names {
		n.known[name] = true
	}
}

// fresh returns a name that begins with this letter and that it has not returned before.
func (n namer) fresh(letter string) string {
	for i := 1; ; i++ {
		name := letter + strconv.Itoa(i)
		if !n.known[name] {
			n.known[name] = true
			return name
		}
	}
}
