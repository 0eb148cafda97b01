// Package chart is for tests: what the chapters say of instructions and of names, written apart from the layers that are held against it.
package chart

import (
	"math"
	"slices"

	"astrolabe/api"
)

// form is what an operation is called, and which fields it has.
type form struct{ name, shape string }

// forms are those of all operations, in order; ahead of them there is none.
var forms = [...]form{
	{},
	{"add", "dab-"}, {"sub", "dab-"}, {"adds", "dab-"}, {"subs", "dab-"}, {"and", "dab-"}, {"or", "dab-"},
	{"xor", "dab-"}, {"bic", "dab-"}, {"shl", "dab-"}, {"shr", "dab-"}, {"sar", "dab-"}, {"rol", "dab-"},
	{"slt", "dab-"}, {"sltu", "dab-"}, {"seq", "dab-"}, {"min", "dab-"}, {"max", "dab-"}, {"mul", "dab-"},
	{"mulh", "dab-"}, {"mulq", "dab-"}, {"mulr", "dab-"}, {"div", "dab-"}, {"rem", "dab-"},
	{"clz", "da--"}, {"neg", "da--"}, {"abs", "da--"}, {"mask", "da--"}, {"sign", "da--"}, {"half", "da--"},
	{"high", "da--"},
	{"addi", "da-s"},
	{"ori", "da-u"},
	{"lui", "d--u"},
	{"lw", "da-u"}, {"sw", "da-u"}, {"beq", "da-u"}, {"bne", "da-u"}, {"blt", "da-u"},
	{"jump", "---u"},
	{"jal", "d--u"},
	{"jr", "-a--"},
	{"nop", "----"}, {"halt", "----"},
}

// Name: an operation's.
func Name(op int) string { return forms[op].name }

// Shape: an operation's.
func Shape(op int) string { return forms[op].shape }

// Op: the operation of a name; 0, if there is none.
func Op(name string) int {
	for op := 1; op < len(forms); op++ {
		if forms[op].name == name {
			return op
		}
	}
	return 0
}

// Named: the instruction of an operation's name and of what its shape has, in order. A name that is none is a fault of the test: then it panics.
func Named(name string, has ...int) api.Ins {
	op := Op(name)
	if op == 0 {
		panic("no operation is named " + name)
	}
	var fields [4]int
	for k, letter := range []byte(Shape(op)) {
		if letter != '-' {
			fields[k], has = has[0], has[1:]
		}
	}
	return Ins(op, fields)
}

// Bounds: the least and the greatest that a letter allows.
func Bounds(letter byte) (int, int) {
	switch letter {
	case 's':
		return -32768, 32767
	case 'u':
		return 0, 65535
	case '-':
		return 0, 0
	}
	return 0, 31
}

// Ins: an instruction of four fields: D, A, B and N.
func Ins(op int, fields [4]int) api.Ins {
	return api.Ins{Op: op, D: fields[0], A: fields[1], B: fields[2], N: fields[3]}
}

// Least: an operation's fields, all at the least.
func Least(op int) [4]int {
	var l [4]int
	for k := range l {
		l[k], _ = Bounds(Shape(op)[k])
	}
	return l
}

// Greatest: an operation's fields, all at the greatest.
func Greatest(op int) [4]int {
	var l [4]int
	for k := range l {
		_, l[k] = Bounds(Shape(op)[k])
	}
	return l
}

// Within: numbers that a letter allows, first of all its bounds.
func Within(letter byte) []int {
	low, high := Bounds(letter)
	l := slices.Compact([]int{low, high})
	for _, x := range []int{-32767, -256, -255, -10, -9, -1, 0, 1, 2, 9, 10, 11, 15, 16, 17, 30, 31, 32, 99, 100, 255, 256, 2047, 2048, 32766, 32767, 32768, 65534} {
		if x > low && x < high {
			l = append(l, x)
		}
	}
	return l
}

// Beyond: numbers that a letter does not allow: next to its bounds, the ends, and such as it allows when cut to fewer bits.
func Beyond(letter byte) []int {
	low, high := Bounds(letter)
	l := []int{high + 1, low - 1, math.MinInt, math.MaxInt}
	for _, x := range []int{-2, -1, 1, -32, -31, 31, 32, 33, 63, 64, 99, 100, 2048, -32769, -32768, 32768, 65535, 65536, 65537, -65536, -65535, 131072, 1 << 21, 1 << 26, 123456789, 999999999, -123456789, -999999999, 1 << 32, 1<<32 + 1, -1 << 32, 1<<63 - 32} {
		if x < low || x > high {
			l = append(l, x)
		}
	}
	return l
}

// Others: numbers that are no operation's: the ends, and such as are one's when cut to fewer bits.
func Others() []int {
	l := []int{math.MinInt, math.MinInt + 1, math.MinInt32, -65536, -43, -2, -1, 0, 1<<16 + 1, 1<<32 + 1, 1<<32 + 43, -1<<32 + 1, math.MaxInt32, math.MaxInt - 1, math.MaxInt}
	for op := 44; op < 400; op++ {
		l = append(l, op)
	}
	return l
}

// Some goes through instructions of each operation whose fields are such as Within tells.
func Some(yield func(api.Ins) bool) {
	for op := 1; op <= 43; op++ {
		if !each(op, 0, [4]int{}, yield) {
			return
		}
	}
}

// each goes through an operation's instructions whose fields ahead of one are told already.
func each(op, k int, fields [4]int, yield func(api.Ins) bool) bool {
	if k == len(fields) {
		return yield(Ins(op, fields))
	}
	for _, x := range Within(Shape(op)[k]) {
		fields[k] = x
		if !each(op, k+1, fields, yield) {
			return false
		}
	}
	return true
}
