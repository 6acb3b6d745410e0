package mean

import "math/bits"

// set is a set of ranks, as many bits as there are ranks.
type set []uint64

// emptySet returns a set for the ranks 0 to n - 1.
func emptySet(n int) set {
	return make(set, (n+63)/64)
}

func (s set) has(rank int) bool {
	return s[rank>>6]>>(rank&63)&1 == 1
}

func (s set) add(rank int) {
	s[rank>>6] |= 1 << (rank & 63)
}

func (s set) remove(rank int) {
	s[rank>>6] &^= 1 << (rank & 63)
}

// include adds all of more, and returns the ranks that are new.
func (s set) include(more set) []int {
	var added []int
	for i, word := range more {
		fresh := word &^ s[i]
		s[i] |= word
		for ; fresh != 0; fresh &= fresh - 1 {
			added = append(added, i<<6+bits.TrailingZeros64(fresh))
		}
	}
	return added
}

// key returns a string that no other set of as many ranks has.
func (s set) key() string {
	var key []byte
	for _, word := range s {
		for range 8 {
			key = append(key, byte(word))
			word >>= 8
		}
	}
	return string(key)
}
