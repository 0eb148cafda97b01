package chart_test

import (
	"slices"
	"testing"

	"astrolabe/api"
	"astrolabe/chart"
	"astrolabe/code"
)

func TestWordByExactAnswers(t *testing.T) {
	for _, x := range []struct {
		op     int
		fields [4]int
		want   uint32
	}{
		{api.OpHalt, [4]int{}, 0b101011 << 26},
		{api.OpAdd, [4]int{1, 2, 3, 0}, 0b000001_00001_00010_00011_00000000000},
		{api.OpAdd, [4]int{31, 31, 31, 0}, 0b000001_11111_11111_11111_00000000000},
		{api.OpAddi, [4]int{1, 2, 0, -1}, 0b011111_00001_00010_1111111111111111},
		{api.OpAddi, [4]int{16, 1, 0, -32768}, 0b011111_10000_00001_1000000000000000},
		{api.OpAddi, [4]int{0, 0, 0, 32767}, 0b011111_00000_00000_0111111111111111},
		{api.OpLui, [4]int{31, 0, 0, 65535}, 0b100001_11111_00000_1111111111111111},
		{api.OpBlt, [4]int{7, 9, 0, 16384}, 0b100110_00111_01001_0100000000000000},
		{api.OpJump, [4]int{0, 0, 0, 1}, 0b100111_00000_00000_0000000000000001},
	} {
		if got := chart.Word(x.op, x.fields); got != x.want {
			t.Errorf("Word(%d, %v) = %#b, want %#b", x.op, x.fields, got, x.want)
		}
	}
}

func TestErrorByExactAnswers(t *testing.T) {
	for _, x := range []struct {
		op     int
		fields [4]int
		want   api.Errno
	}{
		{0, [4]int{}, api.ErrArg},
		{44, [4]int{40}, api.ErrArg},
		{-1, [4]int{}, api.ErrArg},
		{api.OpAdd, [4]int{31, 31, 31, 0}, api.OK},
		{api.OpAdd, [4]int{32, 0, 0, 0}, api.ErrRange},
		{api.OpAdd, [4]int{0, -1, 0, 0}, api.ErrRange},
		{api.OpAdd, [4]int{0, 0, 32, 1}, api.ErrRange},
		{api.OpAdd, [4]int{0, 0, 0, 1}, api.ErrForm},
		{api.OpJump, [4]int{1, 0, 0, 65536}, api.ErrForm},
		{api.OpJump, [4]int{0, 0, 0, 65536}, api.ErrRange},
		{api.OpLui, [4]int{32, 1, 0, 0}, api.ErrRange},
		{api.OpLui, [4]int{31, 1, 0, 0}, api.ErrForm},
		{api.OpAddi, [4]int{0, 0, 0, -32768}, api.OK},
		{api.OpAddi, [4]int{0, 0, 0, -32769}, api.ErrRange},
		{api.OpOri, [4]int{0, 0, 0, -1}, api.ErrRange},
		{api.OpHalt, [4]int{}, api.OK},
	} {
		if got := chart.Error(x.op, x.fields); got != x.want {
			t.Errorf("Error(%d, %v) = %v, want %v", x.op, x.fields, got, x.want)
		}
	}
	if chart.Fault('-') != api.ErrForm || chart.Fault('d') != api.ErrRange || chart.Fault('u') != api.ErrRange {
		t.Error("Fault")
	}
}

func TestStraysAreNoInstruction(t *testing.T) {
	told := map[api.Errno]int{}
	for _, w := range chart.Strays() {
		i, e := code.Decode(w)
		if e == api.OK {
			t.Errorf("%#x is %+v", w, i)
		}
		told[e]++
	}
	if told[api.ErrArg] < 3 || told[api.ErrForm] < 3 {
		t.Errorf("strays are such as %v", told)
	}
}

func TestWordsOfInstructions(t *testing.T) {
	l := []api.Ins{{Op: api.OpHalt}, {}, {Op: api.OpAddi, D: 1, A: 2, N: -1}, {}}
	s := chart.Strays()
	if got, want := chart.Words(l), []uint32{0b101011 << 26, s[1], 0b011111_00001_00010_1111111111111111, s[3]}; !slices.Equal(got, want) {
		t.Errorf("Words = %#x, want %#x", got, want)
	}
	if got := chart.Words(make([]api.Ins, 3*len(s))); !slices.Equal(got, slices.Repeat(s, 3)) {
		t.Errorf("Words of none are %#x", got)
	}
	for _, i := range []api.Ins{{Op: 44}, {Op: -1}, {Op: api.OpAdd, D: 32}, {Op: api.OpHalt, N: 1}, {D: 1}} {
		if did := panics(func() { chart.Words([]api.Ins{i}) }); did != (i.Op != 0) {
			t.Errorf("Words of %+v: %t", i, did)
		}
	}
}
