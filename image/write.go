package image

import (
	"astrolabe/api"
	"astrolabe/word"
)

// written: the bytes of an image that may be, without their sum.
func written(m api.Image) []byte {
	b := pair([]byte(first), len(m.Code))
	for _, w := range m.Code {
		b = append(b, word.Bytes(int32(w))...)
	}
	b = pair(b, len(m.Data))
	for i, x := range m.Data {
		b = append(b, word.Bytes(x)...)
		b = append(b, flag(m.Secret[i]))
	}
	return places(places(b, m.In), m.Out)
}

// pair: bytes, and behind them a number of two.
func pair(b []byte, n int) []byte { return append(b, byte(n>>8), byte(n)) }

// places: bytes, and behind them how many addresses there are, and these.
func places(b []byte, addrs []int) []byte {
	b = append(b, byte(len(addrs)))
	for _, a := range addrs {
		b = pair(b, a)
	}
	return b
}

// flag: the byte that says whether a word is secret.
func flag(secret bool) byte {
	if secret {
		return 1
	}
	return 0
}
