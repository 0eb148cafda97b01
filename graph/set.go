package graph

// set is one of places: the lowest six bits of a place tell its bit in a word, those above them the word.
type set []uint64

// newSet is one of none of n places.
func newSet(n int) set { return make(set, (n+63)>>6) }

// add puts a place in.
func (s set) add(p int) { s[p>>6] |= 1 << (p & 63) }

// has: is a place in?
func (s set) has(p int) bool {
	return p >= 0 && p>>6 < len(s) && s[p>>6]>>(p&63)&1 == 1
}

// places are those that are in, rising.
func (s set) places() []int {
	var l []int
	for k, word := range s {
		for i := range 64 {
			if word>>i&1 == 1 {
				l = append(l, k<<6|i)
			}
		}
	}
	return l
}
