package source

import (
	"strconv"
	"strings"

	"astrolabe/api"
	"astrolabe/code"
	"astrolabe/line"
)

const (
	// none stands where a word is no instruction.
	none = "?"
	// from stands ahead of the places from which a place is gone to.
	from = "<"
)

// writer is lines, one behind the other.
type writer struct{ strings.Builder }

// line: one more.
func (w *writer) line(words ...string) { w.WriteString(strings.Join(words, blank) + end) }

// data: the lines of all words of data.
func (w *writer) data(m api.Image) {
	for a, x := range m.Data {
		first := openWord
		if m.Secret[a] {
			first = secretWord
		}
		w.line(first, strconv.Itoa(int(x)))
	}
}

// addresses: the lines of In, or of Out.
func (w *writer) addresses(first string, addrs []int) {
	for _, a := range addrs {
		w.line(first, strconv.Itoa(a))
	}
}

// code: the lines of all instructions, if all words are such.
func (w *writer) code(words []uint32) api.Errno {
	for _, x := range words {
		i, e := code.Decode(x)
		if e != api.OK {
			return e
		}
		text, _ := line.Text(i) // What a word is decoded to has a line.
		w.line(text)
	}
	return api.OK
}

// places: the lines of all places of code.
func (w *writer) places(words []uint32) {
	sources := sourcesOf(words)
	for at, x := range words {
		parts := []string{strconv.Itoa(at), digits(x), told(x)}
		if len(sources[at]) > 0 {
			parts = append(parts, from)
		}
		for _, s := range sources[at] {
			parts = append(parts, strconv.Itoa(s))
		}
		w.line(parts...)
	}
}

// sourcesOf are, of each place, those where instructions stand that have it as the N to which they go.
func sourcesOf(words []uint32) [][]int {
	l := make([][]int, len(words))
	for at, x := range words {
		i, e := code.Decode(x)
		if e == api.OK && goesToN(i.Op) && i.N < len(words) {
			l[i.N] = append(l[i.N], at)
		}
	}
	return l
}

// goesToN: does the operation go on at N, always or sometimes?
func goesToN(op int) bool {
	switch op {
	case api.OpBeq, api.OpBne, api.OpBlt, api.OpJump, api.OpJal:
		return true
	}
	return false
}

// digits are the eight of a word, each of 16.
func digits(x uint32) string {
	s := strconv.FormatUint(uint64(x), 16)
	return strings.Repeat("0", 8-len(s)) + s
}

// told is the line of a word's instruction, if it is one's.
func told(x uint32) string {
	i, e := code.Decode(x)
	if e != api.OK {
		return none
	}
	text, _ := line.Text(i) // What a word is decoded to has a line.
	return text
}
