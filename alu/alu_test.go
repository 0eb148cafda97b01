package alu

import (
	"math"
	"math/big"
	"testing"

	"astrolabe/api"
	"astrolabe/fix"
	"astrolabe/ops"
	"astrolabe/pick"
	"astrolabe/sat"
	"astrolabe/shift"
	"astrolabe/word"
)

const (
	wordMin = -1 << 31
	wordMax = 1<<31 - 1
	round   = 1 << 32 // how many words there are
)

// words: the edges, those at and around each power of 2, and some without a pattern.
func words() []int32 {
	l := []int32{0, 1, 2, 3, 5, 7, -1, -2, -3, -7, -8, wordMin, wordMin + 1, wordMin + 2, wordMax, wordMax - 1, wordMax - 2,
		0x55555555, -0x55555556, 0x12345678, -0x12345678, 759250125, -759250125}
	for n := range 31 {
		p := int32(1) << n
		l = append(l, p, p-1, p+1, -p, -p-1, -p+1)
	}
	x := int32(1)
	for range 64 {
		x = x*1103515245 + 12345
		l = append(l, x)
	}
	return l
}

// around: all small numbers, also below 0: where shifts begin anew, and quotients turn.
func around() []int32 {
	var l []int32
	for n := int32(-70); n <= 70; n++ {
		l = append(l, n)
	}
	return l
}

// others are numbers that are no operations', also such as are one's when they are cut to 8, 16 or 32 bits.
func others() []int {
	l := []int{math.MinInt, math.MinInt + 1, math.MinInt32, math.MinInt32 - 1, math.MaxInt, math.MaxInt - 1, math.MaxInt32, math.MaxInt32 + 1}
	for n := 0; n >= -300; n-- {
		l = append(l, n)
	}
	for n := 44; n <= 300; n++ {
		l = append(l, n)
	}
	for _, n := range []int{8, 16, 31, 32, 62} {
		for op := 1; op <= 43; op++ {
			l = append(l, 1<<n+op, -1<<n+op)
		}
	}
	return append(l, math.MinInt+22, math.MinInt+23)
}

// The reckoning of the tests is that of whole numbers of 64 bits, by sums, products, quotients and rests: no layer judges itself.

// signed is the word that is x modulo 2^32.
func signed(x int64) int64 {
	r := counted(x)
	if r > wordMax {
		r -= round
	}
	return r
}

// counted is x modulo 2^32, from 0 on.
func counted(x int64) int64 { return (x%round + round) % round }

// cut is x, or the word that is nearest to it.
func cut(x int64) int64 {
	if x < wordMin {
		return wordMin
	}
	if x > wordMax {
		return wordMax
	}
	return x
}

// below is x by m, rounded down.
func below(x, m int64) int64 {
	q := x / m
	if q*m > x {
		q--
	}
	return q
}

// power is 2^n.
func power(n int64) int64 {
	p := int64(1)
	for range n {
		p *= 2
	}
	return p
}

// nearest is the whole number nearest to x by m, of two as near the greater one.
func nearest(x, m int64) int64 {
	q := below(x, m)
	if x-q*m >= (q+1)*m-x {
		q++
	}
	return q
}

// eachBit makes a word of what tell says of a's and b's bits at each place.
func eachBit(a, b int64, tell func(x, y int64) bool) int64 {
	x, y, sum, p := counted(a), counted(b), int64(0), int64(1)
	for range 32 {
		if tell(x%2, y%2) {
			sum += p
		}
		x, y, p = x/2, y/2, p*2
	}
	return signed(sum)
}

func truth(holds bool) int64 {
	if holds {
		return 1
	}
	return 0
}

// length is how many bits a number from 0 on has.
func length(x int64) int64 {
	n := int64(0)
	for ; x > 0; x /= 2 {
		n++
	}
	return n
}

func amount(x int64) int64 {
	if x < 0 {
		return -x
	}
	return x
}

// quotientOf is a by b, rounded to 0: by the amounts, and then with the sign.
func quotientOf(a, b int64) int64 {
	q := below(amount(a), amount(b))
	if (a < 0) != (b < 0) {
		q = -q
	}
	return q
}

// operation is what the chapter says of one.
type operation struct {
	op   int
	name string
	want func(a, b int64) int64
}

// operations are those that reckon of any two words.
var operations = []operation{
	{api.OpAdd, "add", func(a, b int64) int64 { return signed(a + b) }},
	{api.OpSub, "sub", func(a, b int64) int64 { return signed(a - b) }},
	{api.OpAdds, "adds", func(a, b int64) int64 { return cut(a + b) }},
	{api.OpSubs, "subs", func(a, b int64) int64 { return cut(a - b) }},
	{api.OpAnd, "and", func(a, b int64) int64 { return eachBit(a, b, func(x, y int64) bool { return x+y == 2 }) }},
	{api.OpOr, "or", func(a, b int64) int64 { return eachBit(a, b, func(x, y int64) bool { return x+y > 0 }) }},
	{api.OpXor, "xor", func(a, b int64) int64 { return eachBit(a, b, func(x, y int64) bool { return x+y == 1 }) }},
	{api.OpBic, "bic", func(a, b int64) int64 { return eachBit(a, b, func(x, y int64) bool { return x > y }) }},
	{api.OpShl, "shl", func(a, b int64) int64 { return signed(counted(a) % power(32-by(b)) * power(by(b))) }},
	{api.OpShr, "shr", func(a, b int64) int64 { return signed(counted(a) / power(by(b))) }},
	{api.OpSar, "sar", func(a, b int64) int64 { return below(a, power(by(b))) }},
	{api.OpRol, "rol", func(a, b int64) int64 {
		up, down := power(by(b)), power(32-by(b))
		return signed(counted(a)%down*up + counted(a)/down)
	}},
	{api.OpSlt, "slt", func(a, b int64) int64 { return truth(a < b) }},
	{api.OpSltu, "sltu", func(a, b int64) int64 { return truth(counted(a) < counted(b)) }},
	{api.OpSeq, "seq", func(a, b int64) int64 { return truth(a == b) }},
	{api.OpMin, "min", func(a, b int64) int64 { return (a + b - amount(a-b)) / 2 }},
	{api.OpMax, "max", func(a, b int64) int64 { return (a + b + amount(a-b)) / 2 }},
	{api.OpMul, "mul", func(a, b int64) int64 { return signed(a * b) }},
	{api.OpMulh, "mulh", func(a, b int64) int64 { return below(a*b, round) }},
	{api.OpMulq, "mulq", func(a, b int64) int64 { return cut(nearest(a*b, 1<<30)) }},
	{api.OpMulr, "mulr", func(a, b int64) int64 { return cut(nearest(a*b, 1<<16)) }},
}

// ofA are those that reckon of a alone.
var ofA = []operation{
	{api.OpClz, "clz", func(a, _ int64) int64 { return 32 - length(counted(a)) }},
	{api.OpNeg, "neg", func(a, _ int64) int64 { return cut(-a) }},
	{api.OpAbs, "abs", func(a, _ int64) int64 { return cut(amount(a)) }},
	{api.OpMask, "mask", func(a, _ int64) int64 { return -truth(a != 0) }},
	{api.OpSign, "sign", func(a, _ int64) int64 { return -truth(a < 0) }},
	{api.OpHalf, "half", func(a, _ int64) int64 {
		r := counted(a) % 65536
		if r > 32767 {
			r -= 65536
		}
		return r
	}},
	{api.OpHigh, "high", func(a, _ int64) int64 { return below(a, 65536) }},
}

// divisions are those that reckon nothing with b 0.
var divisions = []operation{
	{api.OpDiv, "div", func(a, b int64) int64 { return signed(quotientOf(a, b)) }},
	{api.OpRem, "rem", func(a, b int64) int64 { return a - quotientOf(a, b)*b }},
}

// by is b's lowest five bits.
func by(b int64) int64 { return counted(b) % 32 }

// check holds Do against what is asked, that it reckons.
func check(t *testing.T, o operation, a, b int32) {
	t.Helper()
	want := o.want(int64(a), int64(b))
	if got, is := Do(o.op, a, b); int64(got) != want || !is {
		t.Fatalf("Do(%s, %d, %d) = %d, %t, want %d", o.name, a, b, got, is, want)
	}
}

// nothing holds that Do reckons nothing.
func nothing(t *testing.T, op int, a, b int32) {
	t.Helper()
	if got, is := Do(op, a, b); got != 0 || is {
		t.Errorf("Do(%d, %d, %d) = %d, %t, want nothing", op, a, b, got, is)
	}
}

func TestOperationsOfTheTestsAreAllThatReckon(t *testing.T) {
	named := map[int]bool{}
	for _, l := range [][]operation{operations, ofA, divisions} {
		for _, o := range l {
			if ops.Name(o.op) != o.name || !ops.Reckons(o.op) {
				t.Errorf("%d is %q, not %q, or doesn't reckon", o.op, ops.Name(o.op), o.name)
			}
			named[o.op] = true
		}
	}
	if len(named) != 30 {
		t.Errorf("%d operations, want 30", len(named))
	}
}

// P7.1

type example struct {
	op         int
	a, b, want int32
}

func checkExamples(t *testing.T, l []example) {
	t.Helper()
	for _, c := range l {
		if got, is := Do(c.op, c.a, c.b); got != c.want || !is {
			t.Errorf("Do(%s, %d, %d) = %d, %t, want %d", ops.Name(c.op), c.a, c.b, got, is, c.want)
		}
	}
}

func TestSumsGoRound(t *testing.T) {
	checkExamples(t, []example{
		{api.OpAdd, 0, 0, 0}, {api.OpAdd, 2, 3, 5}, {api.OpAdd, 2, -3, -1}, {api.OpAdd, -1, 1, 0}, {api.OpAdd, -1, -1, -2},
		{api.OpAdd, wordMax, 1, wordMin}, {api.OpAdd, 1, wordMax, wordMin}, {api.OpAdd, wordMax, wordMax, -2}, {api.OpAdd, wordMin, -1, wordMax}, {api.OpAdd, wordMin, wordMin, 0}, {api.OpAdd, wordMin, wordMax, -1},
		{api.OpSub, 0, 0, 0}, {api.OpSub, 2, 3, -1}, {api.OpSub, 3, 2, 1}, {api.OpSub, 2, -3, 5}, {api.OpSub, -1, -1, 0}, {api.OpSub, 0, wordMin, wordMin}, {api.OpSub, 0, wordMax, wordMin + 1},
		{api.OpSub, wordMin, 1, wordMax}, {api.OpSub, wordMax, -1, wordMin}, {api.OpSub, wordMax, wordMin, -1}, {api.OpSub, wordMin, wordMax, 1}, {api.OpSub, wordMin, wordMin, 0}, {api.OpSub, -1, wordMin, wordMax},
	})
}

func TestSumsAreCut(t *testing.T) {
	checkExamples(t, []example{
		{api.OpAdds, 0, 0, 0}, {api.OpAdds, 2, -3, -1}, {api.OpAdds, wordMax, 0, wordMax}, {api.OpAdds, wordMax - 1, 1, wordMax}, {api.OpAdds, wordMin + 1, -1, wordMin},
		{api.OpAdds, wordMax, 1, wordMax}, {api.OpAdds, 1, wordMax, wordMax}, {api.OpAdds, wordMax, wordMax, wordMax}, {api.OpAdds, wordMin, -1, wordMin}, {api.OpAdds, wordMin, wordMin, wordMin}, {api.OpAdds, wordMin, wordMax, -1},
		{api.OpSubs, 0, 0, 0}, {api.OpSubs, 2, 3, -1}, {api.OpSubs, 3, 2, 1}, {api.OpSubs, 0, wordMin, wordMax}, {api.OpSubs, 0, wordMax, wordMin + 1}, {api.OpSubs, -1, wordMin, wordMax},
		{api.OpSubs, wordMin, 1, wordMin}, {api.OpSubs, wordMax, -1, wordMax}, {api.OpSubs, wordMax, wordMin, wordMax}, {api.OpSubs, wordMin, wordMax, wordMin}, {api.OpSubs, wordMin, wordMin, 0},
	})
}

func TestBitsAndShifts(t *testing.T) {
	checkExamples(t, []example{
		{api.OpAnd, 12, 10, 8}, {api.OpAnd, -1, 5, 5}, {api.OpAnd, wordMin, wordMax, 0}, {api.OpAnd, wordMin, -1, wordMin},
		{api.OpOr, 12, 10, 14}, {api.OpOr, -1, 5, -1}, {api.OpOr, wordMin, wordMax, -1}, {api.OpOr, wordMin, 0, wordMin},
		{api.OpXor, 12, 10, 6}, {api.OpXor, -1, 5, -6}, {api.OpXor, wordMin, wordMax, -1}, {api.OpXor, wordMin, wordMin, 0},
		{api.OpBic, 12, 10, 4}, {api.OpBic, 10, 12, 2}, {api.OpBic, -1, 5, -6}, {api.OpBic, 5, -1, 0}, {api.OpBic, -1, wordMax, wordMin}, {api.OpBic, wordMin, wordMax, wordMin}, {api.OpBic, wordMin, wordMin, 0}, {api.OpBic, 7, 0, 7},
		{api.OpShl, 1, 0, 1}, {api.OpShl, 1, 31, wordMin}, {api.OpShl, 3, 31, wordMin}, {api.OpShl, 1, 32, 1}, {api.OpShl, 1, 33, 2}, {api.OpShl, 1, -1, wordMin}, {api.OpShl, 1, -31, 2}, {api.OpShl, 1, -32, 1}, {api.OpShl, 1, wordMin, 1}, {api.OpShl, 1, wordMax, wordMin},
		{api.OpShr, -1, 0, -1}, {api.OpShr, -1, 31, 1}, {api.OpShr, -1, 28, 15}, {api.OpShr, -1, 32, -1}, {api.OpShr, -1, 33, wordMax}, {api.OpShr, -1, -1, 1}, {api.OpShr, wordMin, 31, 1}, {api.OpShr, wordMin, -31, 1 << 30}, {api.OpShr, wordMin, wordMax, 1},
		{api.OpSar, -4, 1, -2}, {api.OpSar, -3, 1, -2}, {api.OpSar, -1, 31, -1}, {api.OpSar, wordMin, 31, -1}, {api.OpSar, wordMax, 31, 0}, {api.OpSar, -3, 32, -3}, {api.OpSar, -3, 33, -2}, {api.OpSar, -3, -1, -1}, {api.OpSar, -3, -32, -3}, {api.OpSar, 5, -31, 2},
		{api.OpRol, wordMin, 1, 1}, {api.OpRol, 1, 31, wordMin}, {api.OpRol, 3, 31, wordMin + 1}, {api.OpRol, 3, 32, 3}, {api.OpRol, 3, 33, 6}, {api.OpRol, 3, -1, wordMin + 1}, {api.OpRol, 3, -32, 3}, {api.OpRol, -1, 7, -1},
	})
}

func TestComparisons(t *testing.T) {
	checkExamples(t, []example{
		{api.OpSlt, -1, 0, 1}, {api.OpSlt, 0, -1, 0}, {api.OpSlt, 5, 5, 0}, {api.OpSlt, wordMin, wordMax, 1}, {api.OpSlt, wordMax, wordMin, 0}, {api.OpSlt, wordMin, 1, 1},
		{api.OpSltu, -1, 0, 0}, {api.OpSltu, 0, -1, 1}, {api.OpSltu, 5, 5, 0}, {api.OpSltu, wordMin, wordMax, 0}, {api.OpSltu, wordMax, wordMin, 1}, {api.OpSltu, wordMin, -1, 1},
		{api.OpSeq, 5, 5, 1}, {api.OpSeq, 5, 4, 0}, {api.OpSeq, 0, 0, 1}, {api.OpSeq, wordMin, wordMin, 1}, {api.OpSeq, wordMin, wordMax, 0}, {api.OpSeq, wordMin, 0, 0}, {api.OpSeq, 1, -1, 0},
		{api.OpMin, 3, -3, -3}, {api.OpMin, -3, 3, -3}, {api.OpMin, 5, 5, 5}, {api.OpMin, wordMin, wordMax, wordMin}, {api.OpMin, wordMax, wordMin, wordMin}, {api.OpMin, wordMin, 1, wordMin},
		{api.OpMax, 3, -3, 3}, {api.OpMax, -3, 3, 3}, {api.OpMax, 5, 5, 5}, {api.OpMax, wordMin, wordMax, wordMax}, {api.OpMax, wordMax, wordMin, wordMax}, {api.OpMax, wordMin, 1, 1},
	})
}

func TestProducts(t *testing.T) {
	checkExamples(t, []example{
		{api.OpMul, 7, -9, -63}, {api.OpMul, 1 << 16, 1 << 16, 0}, {api.OpMul, 65536, 32768, wordMin}, {api.OpMul, wordMin, -1, wordMin}, {api.OpMul, wordMax, wordMax, 1}, {api.OpMul, wordMin, wordMin, 0},
		{api.OpMulh, 7, -9, -1}, {api.OpMulh, 7, 9, 0}, {api.OpMulh, 1 << 16, 1 << 16, 1}, {api.OpMulh, wordMin, wordMin, 1 << 30}, {api.OpMulh, wordMin, wordMax, -1 << 30}, {api.OpMulh, wordMin, -1, 0},
		{api.OpMulq, 1 << 30, 7, 7}, {api.OpMulq, 1 << 29, 7, 4}, {api.OpMulq, 1 << 29, -7, -3}, {api.OpMulq, wordMin, wordMin, wordMax}, {api.OpMulq, wordMin, wordMax, wordMin}, {api.OpMulq, wordMin, 1, -2}, {api.OpMulq, wordMin, 1 << 30, wordMin},
		{api.OpMulr, 1 << 16, 7, 7}, {api.OpMulr, 1 << 15, 7, 4}, {api.OpMulr, 1 << 15, -7, -3}, {api.OpMulr, wordMin, wordMin, wordMax}, {api.OpMulr, wordMin, wordMax, wordMin}, {api.OpMulr, wordMin, 1, -32768}, {api.OpMulr, wordMin, 1 << 16, wordMin},
	})
}

func TestQuotientsAndRests(t *testing.T) {
	checkExamples(t, []example{
		{api.OpDiv, 7, 2, 3}, {api.OpDiv, -7, 2, -3}, {api.OpDiv, 7, -2, -3}, {api.OpDiv, -7, -2, 3},
		{api.OpRem, 7, 2, 1}, {api.OpRem, -7, 2, -1}, {api.OpRem, 7, -2, 1}, {api.OpRem, -7, -2, -1},
		{api.OpDiv, 6, 2, 3}, {api.OpDiv, -6, 2, -3}, {api.OpDiv, 6, -2, -3}, {api.OpDiv, -6, -2, 3}, {api.OpRem, 6, 2, 0}, {api.OpRem, -6, 2, 0}, {api.OpRem, 6, -2, 0}, {api.OpRem, -6, -2, 0},
		{api.OpDiv, 2, 7, 0}, {api.OpDiv, -2, 7, 0}, {api.OpDiv, 2, -7, 0}, {api.OpDiv, -2, -7, 0}, {api.OpRem, 2, 7, 2}, {api.OpRem, -2, 7, -2}, {api.OpRem, 2, -7, 2}, {api.OpRem, -2, -7, -2},
		{api.OpDiv, 0, 1, 0}, {api.OpDiv, 0, -1, 0}, {api.OpDiv, 0, wordMin, 0}, {api.OpRem, 0, 1, 0}, {api.OpRem, 0, -1, 0}, {api.OpRem, 0, wordMax, 0},
		{api.OpDiv, 5, 1, 5}, {api.OpDiv, 5, -1, -5}, {api.OpRem, 5, 1, 0}, {api.OpRem, 5, -1, 0},
		{api.OpDiv, wordMin, -1, wordMin}, {api.OpRem, wordMin, -1, 0}, {api.OpDiv, wordMin, 1, wordMin}, {api.OpRem, wordMin, 1, 0}, {api.OpDiv, wordMin, 2, -1 << 30}, {api.OpDiv, wordMin, -2, 1 << 30},
		{api.OpDiv, wordMin, wordMin, 1}, {api.OpRem, wordMin, wordMin, 0}, {api.OpDiv, wordMin, wordMax, -1}, {api.OpRem, wordMin, wordMax, -1}, {api.OpDiv, wordMax, wordMin, 0}, {api.OpRem, wordMax, wordMin, wordMax},
		{api.OpDiv, wordMax, -1, wordMin + 1}, {api.OpRem, wordMax, -1, 0}, {api.OpDiv, wordMin + 1, -1, wordMax}, {api.OpDiv, wordMin, 3, -715827882}, {api.OpRem, wordMin, 3, -2}, {api.OpDiv, wordMin, -3, 715827882}, {api.OpRem, wordMin, -3, -2},
		{api.OpDiv, -1, wordMin, 0}, {api.OpRem, -1, wordMin, -1}, {api.OpDiv, 1, wordMin, 0}, {api.OpRem, 1, wordMin, 1},
	})
}

func TestOfAAlone(t *testing.T) {
	for _, b := range []int32{0, 1, -1, 9, 31, 32, wordMin, wordMax} {
		checkExamples(t, []example{
			{api.OpClz, 0, b, 32}, {api.OpClz, 1, b, 31}, {api.OpClz, -1, b, 0}, {api.OpClz, wordMax, b, 1}, {api.OpClz, wordMin, b, 0},
			{api.OpNeg, 0, b, 0}, {api.OpNeg, 1, b, -1}, {api.OpNeg, -1, b, 1}, {api.OpNeg, wordMax, b, wordMin + 1}, {api.OpNeg, wordMin, b, wordMax},
			{api.OpAbs, 0, b, 0}, {api.OpAbs, 3, b, 3}, {api.OpAbs, -3, b, 3}, {api.OpAbs, wordMax, b, wordMax}, {api.OpAbs, wordMin, b, wordMax}, {api.OpAbs, wordMin + 1, b, wordMax},
			{api.OpMask, 0, b, 0}, {api.OpMask, 1, b, -1}, {api.OpMask, 4, b, -1}, {api.OpMask, -1, b, -1}, {api.OpMask, wordMax, b, -1}, {api.OpMask, wordMin, b, -1},
			{api.OpSign, 0, b, 0}, {api.OpSign, 1, b, 0}, {api.OpSign, -1, b, -1}, {api.OpSign, wordMax, b, 0}, {api.OpSign, wordMin, b, -1},
			{api.OpHalf, 0, b, 0}, {api.OpHalf, 32767, b, 32767}, {api.OpHalf, 32768, b, -32768}, {api.OpHalf, 65535, b, -1}, {api.OpHalf, 65536, b, 0}, {api.OpHalf, -32769, b, 32767}, {api.OpHalf, wordMax, b, -1}, {api.OpHalf, wordMin, b, 0},
			{api.OpHigh, 0, b, 0}, {api.OpHigh, 65535, b, 0}, {api.OpHigh, 65536, b, 1}, {api.OpHigh, -1, b, -1}, {api.OpHigh, -65536, b, -1}, {api.OpHigh, -65537, b, -2}, {api.OpHigh, wordMax, b, 32767}, {api.OpHigh, wordMin, b, -32768},
		})
	}
}

func TestDoOfAllPairs(t *testing.T) {
	l := words()
	for _, o := range operations {
		for _, a := range l {
			for _, b := range l {
				check(t, o, a, b)
			}
		}
	}
}

func TestDoOfSmallNumbers(t *testing.T) {
	for _, o := range operations {
		for _, b := range around() {
			for _, a := range words() {
				check(t, o, a, b)
				check(t, o, b, a)
			}
		}
	}
}

func TestDoOfAAloneAsksNoOther(t *testing.T) {
	l := words()
	for _, o := range ofA {
		for _, a := range l {
			for _, b := range l {
				check(t, o, a, b)
			}
		}
	}
}

func TestDoOfDivisions(t *testing.T) {
	for _, o := range divisions {
		for _, b := range append(words(), around()...) {
			if b == 0 {
				continue
			}
			for _, a := range words() {
				check(t, o, a, b)
			}
			for _, a := range around() {
				check(t, o, a, b)
			}
		}
	}
}

func TestDoOfDivisionsByNought(t *testing.T) {
	for _, o := range divisions {
		for _, a := range append(words(), around()...) {
			nothing(t, o.op, a, 0)
		}
	}
}

func TestNoughtAsBIsTakenButOfDivisions(t *testing.T) {
	for op := 1; op <= 30; op++ {
		for _, a := range words() {
			if _, is := Do(op, a, 0); is != (op != api.OpDiv && op != api.OpRem) {
				t.Errorf("Do(%s, %d, 0) tells %t", ops.Name(op), a, is)
			}
		}
	}
}

func TestDoOfWhatReckonsNothing(t *testing.T) {
	pairs := [][2]int32{{0, 0}, {5, 5}, {5, 0}, {-7, 2}, {-1, -1}, {wordMin, -1}, {wordMax, 1}, {wordMin, wordMin}}
	for op := 31; op <= 43; op++ {
		for _, p := range pairs {
			nothing(t, op, p[0], p[1])
		}
	}
	for _, op := range others() {
		for _, p := range pairs {
			nothing(t, op, p[0], p[1])
		}
	}
}

func TestDoIsWhatTheLayersTell(t *testing.T) {
	ofTwo := map[int]func(a, b int32) int32{
		api.OpAdds: sat.Add, api.OpSubs: sat.Sub, api.OpShl: shift.Shl, api.OpShr: shift.Shr, api.OpSar: shift.Sar, api.OpRol: shift.Rol,
		api.OpSlt: pick.Less, api.OpSltu: pick.Under, api.OpSeq: pick.Same, api.OpMin: pick.Min, api.OpMax: pick.Max,
		api.OpMul: fix.Mull, api.OpMulh: fix.Mulh, api.OpMulq: fix.Mulq, api.OpMulr: fix.Mulr,
	}
	ofOne := map[int]func(a int32) int32{
		api.OpClz: shift.Clz, api.OpNeg: sat.Neg, api.OpAbs: sat.Abs, api.OpMask: pick.Mask, api.OpSign: pick.Sign, api.OpHalf: word.Half,
	}
	l := words()
	for i, a := range l {
		b := l[(i*7+3)%len(l)]
		for op, tell := range ofTwo {
			if got, is := Do(op, a, b); got != tell(a, b) || !is {
				t.Errorf("Do(%s, %d, %d) = %d, %t, its layer tells %d", ops.Name(op), a, b, got, is, tell(a, b))
			}
		}
		for op, tell := range ofOne {
			if got, is := Do(op, a, b); got != tell(a) || !is {
				t.Errorf("Do(%s, %d, %d) = %d, %t, its layer tells %d", ops.Name(op), a, b, got, is, tell(a))
			}
		}
	}
}

// P7.2

func TestCostExamples(t *testing.T) {
	for _, c := range []struct {
		op   int
		a    int32
		want int
	}{
		{api.OpDiv, 0, 2}, {api.OpDiv, 1, 3}, {api.OpDiv, -1, 3}, {api.OpDiv, 2, 4}, {api.OpDiv, 3, 4}, {api.OpDiv, -3, 4}, {api.OpDiv, 4, 5}, {api.OpDiv, -4, 5}, {api.OpDiv, 7, 5}, {api.OpDiv, -7, 5}, {api.OpDiv, -8, 6},
		{api.OpDiv, 1 << 30, 33}, {api.OpDiv, 1<<30 - 1, 32}, {api.OpDiv, -1 << 30, 33}, {api.OpDiv, wordMax, 33}, {api.OpDiv, wordMin + 1, 33}, {api.OpDiv, wordMin, 34},
		{api.OpRem, 0, 2}, {api.OpRem, 1, 3}, {api.OpRem, -1, 3}, {api.OpRem, 2, 4}, {api.OpRem, 3, 4}, {api.OpRem, -3, 4}, {api.OpRem, 4, 5}, {api.OpRem, -4, 5}, {api.OpRem, 7, 5}, {api.OpRem, -7, 5}, {api.OpRem, -8, 6},
		{api.OpRem, 1 << 30, 33}, {api.OpRem, 1<<30 - 1, 32}, {api.OpRem, -1 << 30, 33}, {api.OpRem, wordMax, 33}, {api.OpRem, wordMin + 1, 33}, {api.OpRem, wordMin, 34},
		{api.OpAdd, wordMin, 1}, {api.OpMul, 5, 3}, {api.OpMulr, wordMin, 3}, {api.OpClz, -1, 1}, {api.OpHigh, wordMin, 1},
		{api.OpAddi, 9, 1}, {api.OpLw, 1, 2}, {api.OpSw, wordMin, 2}, {api.OpBeq, 7, 1}, {api.OpBlt, 7, 1}, {api.OpJump, 7, 3}, {api.OpJr, -1, 3}, {api.OpNop, 7, 1}, {api.OpHalt, wordMin, 1}, {0, 5, 0}, {44, 5, 0}, {-1, 5, 0},
	} {
		if got := Cost(c.op, c.a); got != c.want {
			t.Errorf("Cost(%d, %d) = %d, want %d", c.op, c.a, got, c.want)
		}
	}
}

func TestCostOfDivisions(t *testing.T) {
	for _, op := range []int{api.OpDiv, api.OpRem} {
		for _, a := range append(words(), around()...) {
			if got, want := Cost(op, a), 2+int(length(amount(int64(a)))); got != want {
				t.Errorf("Cost(%s, %d) = %d, want %d", ops.Name(op), a, got, want)
			}
		}
	}
}

func TestCostOfOtherNumbers(t *testing.T) {
	for _, op := range others() {
		for _, a := range []int32{0, 1, -1, 5, -7, wordMin, wordMax} {
			if got := Cost(op, a); got != 0 {
				t.Errorf("Cost(%d, %d) = %d, want 0", op, a, got)
			}
		}
	}
}

// P7.3

// checkParts holds quotient and rest of a by b against each other.
func checkParts(t *testing.T, a, b int32) {
	t.Helper()
	q, isQ := Do(api.OpDiv, a, b)
	r, isR := Do(api.OpRem, a, b)
	if !isQ || !isR {
		t.Fatalf("of %d by %d quotient and rest: %t, %t", a, b, isQ, isR)
	}
	whole := new(big.Int).Mul(big.NewInt(int64(q)), big.NewInt(int64(b)))
	whole.Add(whole, big.NewInt(int64(r)))
	// Euclid's rest, counted from 0 on.
	if off := whole.Sub(whole, big.NewInt(int64(a))); off.Mod(off, big.NewInt(round)).Sign() != 0 {
		t.Fatalf("%d by %d: %d and the rest %d, which are not it", a, b, q, r)
	}
	if amount(int64(r)) >= amount(int64(b)) || r != 0 && (r < 0) != (a < 0) {
		t.Fatalf("%d by %d: the rest %d", a, b, r)
	}
}

func TestQuotientAndRestTogether(t *testing.T) {
	l := append(words(), around()...)
	for _, a := range l {
		for _, b := range l {
			if b != 0 {
				checkParts(t, a, b)
			}
		}
	}
}

func TestQuotientAndRestByTheOperationsThemselves(t *testing.T) {
	l := words()
	for _, a := range l {
		for _, b := range l {
			q, is := Do(api.OpDiv, a, b)
			if !is {
				continue
			}
			r, _ := Do(api.OpRem, a, b)
			p, _ := Do(api.OpMul, q, b)
			if got, _ := Do(api.OpAdd, p, r); got != a {
				t.Fatalf("%d by %d: %d and the rest %d are %d", a, b, q, r, got)
			}
		}
	}
}

func TestCostHangsOnTheOperationAlone(t *testing.T) {
	for op := 1; op <= 43; op++ {
		if op == api.OpDiv || op == api.OpRem {
			continue
		}
		for _, a := range words() {
			if got, want := Cost(op, a), ops.Cost(op); got != want {
				t.Errorf("Cost(%s, %d) = %d, want %d", ops.Name(op), a, got, want)
			}
		}
	}
}

// The chapter's examples.

func TestExamples(t *testing.T) {
	checkExamples(t, []example{{api.OpDiv, -7, 2, -3}, {api.OpRem, -7, 2, -1}})
	if got := Cost(api.OpDiv, -7); got != 5 {
		t.Errorf("Cost(div, -7) = %d, want 5", got)
	}
}
