package chart_test

import (
	"testing"

	"astrolabe/api"
	"astrolabe/chart"
)

func TestWordByExactAnswers(t *testing.T) {
	for _, x := range []struct {
		op     int
		fields [4]int
		want   uint32
	}{
		{api.OpHalt, [4]int{}, 0b101011 << 26},
		{api.OpAdd, [4]int{1, 2, 3, 0}, 0b000001_00001_00010_00011_00000000000},
		{api.OpAdd, [4]int{31, 31, 31, 0}, 0b000001_11111_11111_11111_00000000000},
		{api.OpAddi, [4]int{1, 2, 0, -1}, 0b011111_00001_00010_1111111111111111},
		{api.OpAddi, [4]int{16, 1, 0, -32768}, 0b011111_10000_00001_1000000000000000},
		{api.OpAddi, [4]int{0, 0, 0, 32767}, 0b011111_00000_00000_0111111111111111},
		{api.OpLui, [4]int{31, 0, 0, 65535}, 0b100001_11111_00000_1111111111111111},
		{api.OpBlt, [4]int{7, 9, 0, 16384}, 0b100110_00111_01001_0100000000000000},
		{api.OpJump, [4]int{0, 0, 0, 1}, 0b100111_00000_00000_0000000000000001},
	} {
		if got := chart.Word(x.op, x.fields); got != x.want {
			t.Errorf("Word(%d, %v) = %#b, want %#b", x.op, x.fields, got, x.want)
		}
	}
}

func TestErrorByExactAnswers(t *testing.T) {
	for _, x := range []struct {
		op     int
		fields [4]int
		want   api.Errno
	}{
		{0, [4]int{}, api.ErrArg},
		{44, [4]int{40}, api.ErrArg},
		{-1, [4]int{}, api.ErrArg},
		{api.OpAdd, [4]int{31, 31, 31, 0}, api.OK},
		{api.OpAdd, [4]int{32, 0, 0, 0}, api.ErrRange},
		{api.OpAdd, [4]int{0, -1, 0, 0}, api.ErrRange},
		{api.OpAdd, [4]int{0, 0, 32, 1}, api.ErrRange},
		{api.OpAdd, [4]int{0, 0, 0, 1}, api.ErrForm},
		{api.OpJump, [4]int{1, 0, 0, 65536}, api.ErrForm},
		{api.OpJump, [4]int{0, 0, 0, 65536}, api.ErrRange},
		{api.OpLui, [4]int{32, 1, 0, 0}, api.ErrRange},
		{api.OpLui, [4]int{31, 1, 0, 0}, api.ErrForm},
		{api.OpAddi, [4]int{0, 0, 0, -32768}, api.OK},
		{api.OpAddi, [4]int{0, 0, 0, -32769}, api.ErrRange},
		{api.OpOri, [4]int{0, 0, 0, -1}, api.ErrRange},
		{api.OpHalt, [4]int{}, api.OK},
	} {
		if got := chart.Error(x.op, x.fields); got != x.want {
			t.Errorf("Error(%d, %v) = %v, want %v", x.op, x.fields, got, x.want)
		}
	}
	if chart.Fault('-') != api.ErrForm || chart.Fault('d') != api.ErrRange || chart.Fault('u') != api.ErrRange {
		t.Error("Fault")
	}
}
