package chart_test

import (
	"slices"
	"testing"

	"astrolabe/api"
	"astrolabe/chart"
)

func TestOperationsStandByTheirNumbers(t *testing.T) {
	for op, want := range map[int][2]string{
		api.OpAdd: {"add", "dab-"}, api.OpMulq: {"mulq", "dab-"}, api.OpRem: {"rem", "dab-"}, api.OpClz: {"clz", "da--"}, api.OpHigh: {"high", "da--"},
		api.OpAddi: {"addi", "da-s"}, api.OpOri: {"ori", "da-u"}, api.OpLui: {"lui", "d--u"}, api.OpLw: {"lw", "da-u"}, api.OpBlt: {"blt", "da-u"},
		api.OpJump: {"jump", "---u"}, api.OpJal: {"jal", "d--u"}, api.OpJr: {"jr", "-a--"}, api.OpNop: {"nop", "----"}, api.OpHalt: {"halt", "----"},
	} {
		if got := [2]string{chart.Name(op), chart.Shape(op)}; got != want {
			t.Errorf("operation %d is %q, want %q", op, got, want)
		}
	}
}

func TestNumbersOfLetters(t *testing.T) {
	for _, letter := range []byte("dabsu-") {
		low, high := chart.Bounds(letter)
		for _, x := range chart.Within(letter) {
			if x < low || x > high {
				t.Errorf("%d is within %c", x, letter)
			}
		}
		for _, x := range chart.Beyond(letter) {
			if x >= low && x <= high {
				t.Errorf("%d is beyond %c", x, letter)
			}
		}
		if l := chart.Within(letter); !slices.Contains(l, low) || !slices.Contains(l, high) {
			t.Errorf("within %c are %v", letter, l)
		}
	}
}

func TestSomeInstructionsOfEachOperation(t *testing.T) {
	times, seen := [44]int{}, map[api.Ins]bool{}
	for i := range chart.Some {
		times[i.Op]++
		if seen[i] {
			t.Fatalf("%+v stands twice", i)
		}
		seen[i] = true
	}
	for op, n := range times {
		want := 1
		for _, letter := range []byte(chart.Shape(op)) {
			want *= len(chart.Within(letter))
		}
		if op == 0 {
			want = 0
		}
		if n != want {
			t.Errorf("%d instructions of operation %d, want %d", n, op, want)
		}
	}
}
