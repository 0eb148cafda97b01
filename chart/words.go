package chart

import "astrolabe/api"

// weights are what D, A, B and N weigh in a word; an operation weighs 2^26.
var weights = [4]int{2097152, 65536, 2048, 1}

// Word: the one of an instruction that may be; a sum of products.
func Word(op int, fields [4]int) uint32 {
	sum := op * 67108864
	for k, x := range fields {
		if x < 0 {
			x += 65536
		}
		sum += x * weights[k]
	}
	return uint32(sum)
}

// Error: the one of an instruction, field by field.
func Error(op int, fields [4]int) api.Errno {
	if op < 1 || op > 43 {
		return api.ErrArg
	}
	for k, x := range fields {
		letter := Shape(op)[k]
		if low, high := Bounds(letter); x < low || x > high {
			return Fault(letter)
		}
	}
	return api.OK
}

// Fault: the error of a field that is not within its letter's bounds.
func Fault(letter byte) api.Errno {
	if letter == '-' {
		return api.ErrForm
	}
	return api.ErrRange
}
