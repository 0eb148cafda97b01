package image

import (
	"astrolabe/api"
	"astrolabe/word"
)

// read: the image of bytes without their sum, be it one that may be or not.
func read(b []byte) (m api.Image, e api.Errno) {
	defer func() {
		if f := recover(); f != nil {
			// Nothing but a reader's fault goes up here.
			e = f.(api.Errno)
		}
	}()
	r := reader{b}
	return r.image(), api.OK
}

// reader reads bytes from the front on; its first fault goes up as a panic, so that no part needs to hand it on.
type reader struct{ rest []byte }

// image: all that there is.
func (r *reader) image() api.Image {
	var m api.Image
	r.head()
	for range r.pair() {
		m.Code = append(m.Code, uint32(r.word()))
	}
	for range r.pair() {
		m.Data = append(m.Data, r.word())
		m.Secret = append(m.Secret, r.flag())
	}
	m.In = r.places()
	m.Out = r.places()
	r.end()
	return m
}

// take: so many bytes.
func (r *reader) take(n int) []byte {
	if n > len(r.rest) {
		panic(api.ErrShort)
	}
	b := r.rest[:n]
	r.rest = r.rest[n:]
	return b
}

// head: the bytes with which an image's begin.
func (r *reader) head() {
	if string(r.take(len(first))) != first {
		panic(api.ErrForm)
	}
}

// word: one of four bytes.
func (r *reader) word() int32 {
	x, _ := word.From(r.take(4)) // Of four bytes there is always one.
	return x
}

// pair: a number of two bytes, which has no sign.
func (r *reader) pair() int {
	b := r.take(2)
	return int(uint16(word.Pair(b[0], b[1])))
}

// flag: does a byte say that a word is secret?
func (r *reader) flag() bool {
	switch r.take(1)[0] {
	case 0:
		return false
	case 1:
		return true
	}
	panic(api.ErrForm)
}

// places: as many addresses as a byte says.
func (r *reader) places() []int {
	var addrs []int
	for range r.take(1)[0] {
		addrs = append(addrs, r.pair())
	}
	return addrs
}

// end: nothing more is there.
func (r *reader) end() {
	if len(r.rest) > 0 {
		panic(api.ErrLong)
	}
}
