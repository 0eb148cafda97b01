package code_test

import (
	"testing"

	"astrolabe/api"
	"astrolabe/chart"
	"astrolabe/code"
)

// The reckoning of the tests is the chapter's, by numbers alone: words are sums of products, as package chart tells them, and bits are quotients and rests.

// power is 2^n.
func power(n int) uint32 {
	x := uint32(1)
	for range n {
		x *= 2
	}
	return x
}

// free are the bits, counted from 0 on, that are told to be 0 in an operation's words.
func free(op int) []int {
	used := map[int]bool{}
	for k, first := range []int{21, 16, 11, 0} {
		size := 5
		switch chart.Shape(op)[k] {
		case '-':
			size = 0
		case 's', 'u':
			size = 16
		}
		for n := range size {
			used[first+n] = true
		}
	}
	var l []int
	for n := range 26 {
		if !used[n] {
			l = append(l, n)
		}
	}
	return l
}

// checkIns holds what all three calls say of an instruction, there and back.
func checkIns(t *testing.T, op int, fields [4]int) {
	t.Helper()
	i, e := chart.Ins(op, fields), chart.Error(op, fields)
	if got := code.Check(i); got != e {
		t.Fatalf("Check(%+v) = %v, want %v", i, got, e)
	}
	w := uint32(0)
	if e == api.OK {
		w = chart.Word(op, fields)
	}
	if got, f := code.Encode(i); got != w || f != e {
		t.Fatalf("Encode(%+v) = %#x, %v, want %#x, %v", i, got, f, w, e)
	}
	if e == api.OK {
		checkDecoded(t, w, i)
	}
}

// checkDecoded holds that a word is an instruction's.
func checkDecoded(t *testing.T, w uint32, i api.Ins) {
	t.Helper()
	if got, e := code.Decode(w); got != i || e != api.OK {
		t.Fatalf("Decode(%#x) = %+v, %v, want %+v", w, got, e, i)
	}
}

// checkUndecoded holds that a word is no instruction's, and why.
func checkUndecoded(t *testing.T, w uint32, e api.Errno) {
	t.Helper()
	if got, f := code.Decode(w); got != (api.Ins{}) || f != e {
		t.Fatalf("Decode(%#x) = %+v, %v, want none, %v", w, got, f, e)
	}
}

// P13.1

func TestCheckByExactAnswers(t *testing.T) {
	for _, x := range []struct {
		i api.Ins
		e api.Errno
	}{
		{api.Ins{Op: api.OpAdd}, api.OK},
		{api.Ins{Op: api.OpAdd, D: 31, A: 31, B: 31}, api.OK},
		{api.Ins{Op: api.OpAdd, D: 32}, api.ErrRange},
		{api.Ins{Op: api.OpAdd, D: -1}, api.ErrRange},
		{api.Ins{Op: api.OpAdd, N: 1}, api.ErrForm},
		{api.Ins{Op: api.OpAdd, N: -1}, api.ErrForm},
		{api.Ins{Op: api.OpHigh, D: 31, A: 31}, api.OK},
		{api.Ins{Op: api.OpHigh, B: 1}, api.ErrForm},
		{api.Ins{Op: api.OpAddi, N: -32768}, api.OK},
		{api.Ins{Op: api.OpAddi, N: -32769}, api.ErrRange},
		{api.Ins{Op: api.OpAddi, N: 32767}, api.OK},
		{api.Ins{Op: api.OpAddi, N: 32768}, api.ErrRange},
		{api.Ins{Op: api.OpOri, N: 65535}, api.OK},
		{api.Ins{Op: api.OpOri, N: 65536}, api.ErrRange},
		{api.Ins{Op: api.OpOri, N: -1}, api.ErrRange},
		{api.Ins{Op: api.OpLui, D: 31, N: 65535}, api.OK},
		{api.Ins{Op: api.OpLui, A: 1}, api.ErrForm},
		{api.Ins{Op: api.OpBlt, D: 31, A: 31, N: 65535}, api.OK},
		{api.Ins{Op: api.OpBlt, B: 1}, api.ErrForm},
		{api.Ins{Op: api.OpJump, N: 65535}, api.OK},
		{api.Ins{Op: api.OpJump, D: 1}, api.ErrForm},
		{api.Ins{Op: api.OpJal, D: 32}, api.ErrRange},
		{api.Ins{Op: api.OpJr, A: 31}, api.OK},
		{api.Ins{Op: api.OpJr, A: 32}, api.ErrRange},
		{api.Ins{Op: api.OpJr, D: 1}, api.ErrForm},
		{api.Ins{Op: api.OpHalt}, api.OK},
		{api.Ins{Op: api.OpHalt, A: 1}, api.ErrForm},
		{api.Ins{Op: 44}, api.ErrArg},
		{api.Ins{}, api.ErrArg},
	} {
		if e := code.Check(x.i); e != x.e {
			t.Errorf("Check(%+v) = %v, want %v", x.i, e, x.e)
		}
	}
}

func TestOperationsThatAre(t *testing.T) {
	for op := 1; op <= 43; op++ {
		if e := code.Check(api.Ins{Op: op}); e != api.OK {
			t.Errorf("Check of operation %d: %v", op, e)
		}
		checkIns(t, op, [4]int{})
	}
}

func TestOperationsThatAreNone(t *testing.T) {
	for _, op := range chart.Others() {
		if e := code.Check(api.Ins{Op: op}); e != api.ErrArg {
			t.Errorf("Check of operation %d: %v, want %v", op, e, api.ErrArg)
		}
		for _, fields := range [][4]int{{}, {1, 2, 3, 0}, {1, 2, 0, 3}, {-1, -1, -1, -1}, {32, 0, 0, 65536}} {
			checkIns(t, op, fields)
		}
	}
}

func TestEachFieldByItself(t *testing.T) {
	for op := 1; op <= 43; op++ {
		for _, usual := range [][4]int{{}, chart.Least(op), chart.Greatest(op)} {
			for k := range 4 {
				letter := chart.Shape(op)[k]
				for _, x := range append(chart.Within(letter), chart.Beyond(letter)...) {
					fields := usual
					fields[k] = x
					checkIns(t, op, fields)
				}
			}
		}
	}
}

func TestEachFieldsErrorIsItsLetters(t *testing.T) {
	for op := 1; op <= 43; op++ {
		for k := range 4 {
			letter := chart.Shape(op)[k]
			for _, x := range chart.Beyond(letter) {
				fields := chart.Greatest(op)
				fields[k] = x
				if e := code.Check(chart.Ins(op, fields)); e != chart.Fault(letter) {
					t.Errorf("Check of operation %d with field %d of %d: %v, want %v", op, k, x, e, chart.Fault(letter))
				}
			}
		}
	}
}

func TestTwoWrongFieldsTellTheFirstOnesError(t *testing.T) {
	told := map[[2]api.Errno]bool{}
	for op := 1; op <= 43; op++ {
		shape := chart.Shape(op)
		for k := range 4 {
			for l := k + 1; l < 4; l++ {
				told[[2]api.Errno{chart.Fault(shape[k]), chart.Fault(shape[l])}] = true
				for _, x := range chart.Beyond(shape[k]) {
					for _, y := range chart.Beyond(shape[l]) {
						fields := [4]int{}
						fields[k], fields[l] = x, y
						if e := code.Check(chart.Ins(op, fields)); e != chart.Fault(shape[k]) {
							t.Fatalf("Check of operation %d with %v: %v, want %v", op, fields, e, chart.Fault(shape[k]))
						}
						checkIns(t, op, fields)
					}
				}
			}
		}
	}
	if len(told) != 4 {
		t.Errorf("errors of two fields: %v, want each two", told)
	}
}

func TestManyWrongFieldsTellTheFirstOnesError(t *testing.T) {
	for op := 1; op <= 43; op++ {
		for which := range 16 {
			fields, w := chart.Greatest(op), which
			for k := range 4 {
				if w%2 == 1 {
					fields[k] = chart.Beyond(chart.Shape(op)[k])[k]
				}
				w /= 2
			}
			checkIns(t, op, fields)
		}
	}
}

// P13.2

func TestEncodeByExactAnswers(t *testing.T) {
	for _, x := range []struct {
		i api.Ins
		w uint32
	}{
		{api.Ins{Op: api.OpAdd}, 0x04000000},
		{api.Ins{Op: api.OpAdd, D: 1}, 0x04200000},
		{api.Ins{Op: api.OpAdd, A: 1}, 0x04010000},
		{api.Ins{Op: api.OpAdd, B: 1}, 0x04000800},
		{api.Ins{Op: api.OpAdd, D: 31, A: 31, B: 31}, 0x07fff800},
		{api.Ins{Op: api.OpHigh, D: 31, A: 31}, 0x7bff0000},
		{api.Ins{Op: api.OpAddi, D: 31, A: 31, N: -1}, 0x7fffffff},
		{api.Ins{Op: api.OpAddi, N: -32768}, 0x7c008000},
		{api.Ins{Op: api.OpAddi, N: 32767}, 0x7c007fff},
		{api.Ins{Op: api.OpOri, N: 32768}, 0x80008000},
		{api.Ins{Op: api.OpOri, D: 31, A: 31, N: 65535}, 0x83ffffff},
		{api.Ins{Op: api.OpLui, D: 31, N: 65535}, 0x87e0ffff},
		{api.Ins{Op: api.OpSw, D: 5, A: 6, N: 1024}, 0x8ca60400},
		{api.Ins{Op: api.OpJump, N: 65535}, 0x9c00ffff},
		{api.Ins{Op: api.OpJal, D: 31, N: 1}, 0xa3e00001},
		{api.Ins{Op: api.OpJr, A: 31}, 0xa41f0000},
		{api.Ins{Op: api.OpNop}, 0xa8000000},
		{api.Ins{Op: api.OpHalt}, 0xac000000},
	} {
		if w, e := code.Encode(x.i); w != x.w || e != api.OK {
			t.Errorf("Encode(%+v) = %#x, %v, want %#x", x.i, w, e, x.w)
		}
		checkDecoded(t, x.w, x.i)
	}
}

func TestAllFieldsAtTheirEnds(t *testing.T) {
	for op := 1; op <= 43; op++ {
		checkIns(t, op, chart.Least(op))
		checkIns(t, op, chart.Greatest(op))
	}
}

func TestEncodeOfWhatMayNotBe(t *testing.T) {
	for op := 1; op <= 43; op++ {
		for k := range 4 {
			for _, x := range chart.Beyond(chart.Shape(op)[k]) {
				fields := chart.Greatest(op)
				fields[k] = x
				i := chart.Ins(op, fields)
				if w, e := code.Encode(i); w != 0 || e != code.Check(i) || e == api.OK {
					t.Errorf("Encode(%+v) = %#x, %v", i, w, e)
				}
			}
		}
	}
}

func TestDecodeOfEachOperationsWord(t *testing.T) {
	for op := 1; op <= 43; op++ {
		checkDecoded(t, uint32(op)*power(26), api.Ins{Op: op})
	}
}

func TestDecodeOfNoOperation(t *testing.T) {
	for _, w := range []uint32{0, 1, 1<<26 - 1, 44 << 26, 63 << 26, 1<<32 - 1, 1<<32 - 2} {
		checkUndecoded(t, w, api.ErrArg)
	}
	for _, op := range append([]int{0}, chart.Others()...) {
		if op < 0 || op > 63 {
			continue
		}
		first := uint32(op) * power(26)
		checkUndecoded(t, first, api.ErrArg)
		checkUndecoded(t, first+power(26)-1, api.ErrArg)
		for n := range 26 {
			checkUndecoded(t, first+power(n), api.ErrArg)
		}
	}
}

func TestDecodeOfBitsThatAreToldToBeNought(t *testing.T) {
	for op := 1; op <= 43; op++ {
		for _, fields := range [][4]int{{}, chart.Least(op), chart.Greatest(op)} {
			for _, n := range free(op) {
				checkUndecoded(t, chart.Word(op, fields)+power(n), api.ErrForm)
				for _, m := range free(op) {
					if m != n {
						checkUndecoded(t, chart.Word(op, fields)+power(n)+power(m), api.ErrForm)
					}
				}
			}
		}
	}
}

func TestDecodeOfAllBitsThatAreToldToBeNought(t *testing.T) {
	for op := 1; op <= 43; op++ {
		all := uint32(0)
		for _, n := range free(op) {
			all += power(n)
		}
		if all == 0 { // D, A and N fill a word.
			continue
		}
		for _, fields := range [][4]int{{}, chart.Least(op), chart.Greatest(op)} {
			checkUndecoded(t, chart.Word(op, fields)+all, api.ErrForm)
		}
	}
}

func TestDecodeOfHighestBitOfN(t *testing.T) {
	for op := 1; op <= 43; op++ {
		for _, low := range []uint32{32768, 32769, 40000, 65534, 65535} {
			w, n := uint32(op)*power(26)+low, int(low)
			switch chart.Shape(op)[2:] {
			case "-s":
				checkDecoded(t, w, api.Ins{Op: op, N: n - 65536})
			case "-u":
				checkDecoded(t, w, api.Ins{Op: op, N: n})
			case "--":
				checkUndecoded(t, w, api.ErrForm)
			case "b-": // The highest five of these bits are B's.
				if n%2048 == 0 {
					checkDecoded(t, w, api.Ins{Op: op, B: n / 2048})
				} else {
					checkUndecoded(t, w, api.ErrForm)
				}
			}
		}
	}
}

// P13.3

func TestAllNumbersOfEachOperation(t *testing.T) {
	for op := 1; op <= 43; op++ {
		low, high := chart.Bounds(chart.Shape(op)[3])
		for _, usual := range [][4]int{{}, chart.Greatest(op)} {
			for n := low; n <= high; n++ {
				fields := usual
				fields[3] = n
				checkIns(t, op, fields)
			}
		}
	}
}

func TestAllRegistersOfEachOperation(t *testing.T) {
	for op := 1; op <= 43; op++ {
		_, d := chart.Bounds(chart.Shape(op)[0])
		_, a := chart.Bounds(chart.Shape(op)[1])
		_, b := chart.Bounds(chart.Shape(op)[2])
		low, high := chart.Bounds(chart.Shape(op)[3])
		for n := range (d + 1) * (a + 1) * (b + 1) {
			fields := [4]int{n % (d + 1), n / (d + 1) % (a + 1), n / (d + 1) / (a + 1), low}
			checkIns(t, op, fields)
			fields[3] = high
			checkIns(t, op, fields)
		}
	}
}

// words are such without a pattern.
func words(yield func(uint32) bool) {
	x := uint32(1)
	for range 1 << 19 {
		x = x*1664525 + 1013904223
		if !yield(x - x/65536 + x%65536*65536) {
			return
		}
	}
}

func TestWhatIsDecodedIsEncodedToItsWord(t *testing.T) {
	told := map[api.Errno]int{}
	look := func(w uint32) {
		i, e := code.Decode(w)
		told[e]++
		if e != api.OK {
			if i != (api.Ins{}) {
				t.Fatalf("Decode(%#x) = %+v, %v", w, i, e)
			}
			return
		}
		if back, f := code.Encode(i); back != w || f != api.OK {
			t.Fatalf("Decode(%#x) = %+v, whose word is %#x, %v", w, i, back, f)
		}
	}
	for w := range words {
		look(w)
		look(w - w%65536)
		look(w - w%2048)
		look(w - w/2048%32*2048)
	}
	if told[api.OK] < 100000 || told[api.ErrForm] < 100000 || told[api.ErrArg] < 100000 || len(told) != 3 {
		t.Errorf("answers: %v", told)
	}
}

func TestNoTwoInstructionsHaveOneWord(t *testing.T) {
	seen := map[uint32]api.Ins{}
	for i := range chart.Some {
		w, e := code.Encode(i)
		if other, ok := seen[w]; ok || e != api.OK {
			t.Fatalf("Encode(%+v) = %#x, %v, as of %+v", i, w, e, other)
		}
		seen[w] = i
	}
}

// The chapter's example.

func TestExample(t *testing.T) {
	i := api.Ins{Op: api.OpAddi, D: 1, A: 2, N: -1}
	w := uint32(31*67108864 + 2097152 + 2*65536 + 65535)
	if got, e := code.Encode(i); got != w || e != api.OK {
		t.Errorf("Encode(%+v) = %d, %v, want %d", i, got, e, w)
	}
	checkDecoded(t, w, i)
}
