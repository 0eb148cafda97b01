// Package word is layer 1: words of 32 bits, and their parts.
package word

import "astrolabe/api"

// size is how many bytes a word has.
const size = 4

// Low: the lowest 32 bits, with a sign.
func Low(x int64) int32 { return int32(x) }

// High: the quotient by 2^32, rounded down.
func High(x int64) int32 { return int32(x >> 32) }

// Join: high times 2^32, and low, counted from 0 on.
func Join(high int32, low int32) int64 {
	// By way of uint32: low's sign must not reach into high's bits.
	return int64(high)<<32 | int64(uint32(low))
}

// Half: the lowest 16 bits, with a sign.
func Half(x int32) int32 { return int32(int16(x)) }

// Pair: 256 times high, and low, of 16 bits, with a sign.
func Pair(high byte, low byte) int32 {
	return Half(int32(high)<<8 | int32(low))
}

// Bytes: the four bytes, the highest first.
func Bytes(x int32) []byte {
	var b [size]byte
	for i := range size {
		b[i] = byte(x >> (8 * (size - 1 - i)))
	}
	return b[:]
}

// From: the word whose Bytes they are.
func From(b []byte) (int32, api.Errno) {
	if len(b) < size {
		return 0, api.ErrShort
	}
	if len(b) > size {
		return 0, api.ErrLong
	}
	var x int32
	for i := range size {
		x = x<<8 | int32(b[i])
	}
	return x, api.OK
}
