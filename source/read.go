package source

import (
	"strconv"
	"strings"

	"astrolabe/api"
	"astrolabe/code"
	"astrolabe/label"
	"astrolabe/line"
)

const (
	// remark begins the first word of a line that is left out.
	remark = "#"
	// colon ends a name that gets a place.
	colon = ":"
	// mark begins the last word of an instruction that goes to a name.
	mark = "@"
)

// doer does a line, told by its words, if it is as told.
type doer func(*reader, []string) api.Errno

// reader reads lines from the first one on.
type reader struct {
	doers map[string]doer
	// at is the number of the line that is read.
	at int
	// made is the image of the lines that are read; in it N is 0 where instructions go to names.
	made  api.Image
	names *label.Table
	aims  []aim
}

// aim is where an instruction stands that goes to a name: in which line, and at which place.
type aim struct {
	name     string
	line, at int
}

// newReader: no lines yet.
func newReader() *reader { return &reader{doers: doers(), names: label.New()} }

// doers are those of lines, by their first words; lines of other first words are done by other.
func doers() map[string]doer {
	return map[string]doer{
		openWord:   (*reader).open,
		secretWord: (*reader).secret,
		inWord:     (*reader).in,
		outWord:    (*reader).out,
		"beq":      (*reader).jump,
		"bne":      (*reader).jump,
		"blt":      (*reader).jump,
		"jump":     (*reader).jump,
		"jal":      (*reader).jump,
	}
}

// take: a line more, told by its words.
func (r *reader) take(words []string) api.Errno {
	if len(words) == 0 || strings.HasPrefix(words[0], remark) {
		return api.OK
	}
	do, ok := r.doers[words[0]]
	if !ok {
		do = (*reader).other
	}
	return do(r, words)
}

// open: a word of data that is not secret.
func (r *reader) open(words []string) api.Errno { return r.data(words, false) }

// secret: a word of data that is secret.
func (r *reader) secret(words []string) api.Errno { return r.data(words, true) }

// in: an address of In.
func (r *reader) in(words []string) api.Errno { return address(&r.made.In, words) }

// out: an address of Out.
func (r *reader) out(words []string) api.Errno { return address(&r.made.Out, words) }

// jump: an instruction that may go to a name.
func (r *reader) jump(words []string) api.Errno {
	last := len(words) - 1
	name, marked := strings.CutPrefix(words[last], mark)
	if !marked {
		return r.instruction(words)
	}
	words[last] = "0"
	if e := r.instruction(words); e != api.OK {
		return e
	}
	if !label.Is(name) {
		return api.ErrForm
	}
	r.aims = append(r.aims, aim{name: name, line: r.at, at: len(r.made.Code) - 1})
	return api.OK
}

// other: a name that gets a place, or an instruction.
func (r *reader) other(words []string) api.Errno {
	name, marked := strings.CutSuffix(words[0], colon)
	if marked && len(words) == 1 && label.Is(name) {
		return r.names.Define(name, len(r.made.Code))
	}
	return r.instruction(words) // No instruction's line begins with what ends with a colon.
}

// instruction: one more.
func (r *reader) instruction(words []string) api.Errno {
	i, e := line.Parse(strings.Join(words, blank))
	if e != api.OK {
		return e
	}
	w, _ := code.Encode(i) // What a line is parsed to has a word.
	r.made.Code = append(r.made.Code, w)
	return api.OK
}

// data: a word of data.
func (r *reader) data(words []string, secret bool) api.Errno {
	x, ok := value(operand(words))
	if !ok {
		return api.ErrForm
	}
	r.made.Data = append(r.made.Data, x)
	r.made.Secret = append(r.made.Secret, secret)
	return api.OK
}

// place puts the places of names where instructions go to them; if a name has none, it tells the first line that goes to such.
func (r *reader) place() (int, bool) {
	for _, a := range r.aims {
		to, ok := r.names.Place(a.name)
		if !ok {
			return a.line, false
		}
		r.made.Code[a.at] = going(r.made.Code[a.at], to)
	}
	return 0, true
}

// going is an instruction's word with another N; 0, if N can't be that. But a place so far behind is one of more code than an image may have, which is refused.
func going(w uint32, to int) uint32 {
	i, _ := code.Decode(w)
	i.N = to
	w, _ = code.Encode(i)
	return w
}

// address: one more.
func address(list *[]int, words []string) api.Errno {
	a, ok := line.Number(operand(words))
	if !ok {
		return api.ErrForm
	}
	*list = append(*list, a)
	return api.OK
}

// operand is the word behind a line's first one; nothing, which is no number, if there are not just two.
func operand(words []string) string {
	if len(words) != 2 {
		return ""
	}
	return words[1]
}

// value is the number of a word of data.
func value(s string) (int32, bool) {
	n, err := strconv.ParseInt(s, 10, 32)
	if err != nil || strconv.FormatInt(n, 10) != s { // Other ways to write a number are no decimals.
		return 0, false
	}
	return int32(n), true
}
