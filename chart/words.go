package chart

import "astrolabe/api"

// weights are what D, A, B and N weigh in a word; an operation weighs 2^26.
var weights = [4]int{2097152, 65536, 2048, 1}

// Word: the one of an instruction that may be; a sum of products.
func Word(op int, fields [4]int) uint32 {
	sum := op * 67108864
	for k, x := range fields {
		if x < 0 {
			x += 65536
		}
		sum += x * weights[k]
	}
	return uint32(sum)
}

// Error: the one of an instruction, field by field.
func Error(op int, fields [4]int) api.Errno {
	if op < 1 || op > 43 {
		return api.ErrArg
	}
	for k, x := range fields {
		letter := Shape(op)[k]
		if low, high := Bounds(letter); x < low || x > high {
			return Fault(letter)
		}
	}
	return api.OK
}

// Fault: the error of a field that is not within its letter's bounds.
func Fault(letter byte) api.Errno {
	if letter == '-' {
		return api.ErrForm
	}
	return api.ErrRange
}

// Strays: words that are no instruction: of no operation, or with a bit that is told to be 0.
func Strays() []uint32 {
	return []uint32{0, 1, 1<<26 - 1, 44 << 26, 63 << 26, 1<<32 - 1, 39<<26 + 1<<21, 39<<26 + 1<<16 + 2, 40<<26 + 1<<16, 43<<26 + 1, 42<<26 + 1<<25, 41<<26 + 1, 41<<26 + 1<<21, 1<<26 + 1, 24<<26 + 1<<11, 33<<26 + 1<<16}
}

// Words: those of instructions; one without an operation has one of Strays, each in turn. One that may not be is a fault of the test: then it panics.
func Words(l []api.Ins) []uint32 {
	strays := Strays()
	words := make([]uint32, len(l))
	for k, i := range l {
		fields := [4]int{i.D, i.A, i.B, i.N}
		switch {
		case i.Op == 0:
			words[k] = strays[k%len(strays)]
		case Error(i.Op, fields) != api.OK:
			panic(Error(i.Op, fields))
		default:
			words[k] = Word(i.Op, fields)
		}
	}
	return words
}
