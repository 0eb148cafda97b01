package chart_test

import (
	"slices"
	"testing"

	"astrolabe/api"
	"astrolabe/chart"
)

func TestOperationsStandByTheirNumbers(t *testing.T) {
	for op, want := range map[int][2]string{
		api.OpAdd: {"add", "dab-"}, api.OpMulq: {"mulq", "dab-"}, api.OpRem: {"rem", "dab-"}, api.OpClz: {"clz", "da--"}, api.OpHigh: {"high", "da--"},
		api.OpAddi: {"addi", "da-s"}, api.OpOri: {"ori", "da-u"}, api.OpLui: {"lui", "d--u"}, api.OpLw: {"lw", "da-u"}, api.OpBlt: {"blt", "da-u"},
		api.OpJump: {"jump", "---u"}, api.OpJal: {"jal", "d--u"}, api.OpJr: {"jr", "-a--"}, api.OpNop: {"nop", "----"}, api.OpHalt: {"halt", "----"},
	} {
		if got := [2]string{chart.Name(op), chart.Shape(op)}; got != want {
			t.Errorf("operation %d is %q, want %q", op, got, want)
		}
	}
}

func TestOpIsThatOfItsName(t *testing.T) {
	for op := 1; op <= 43; op++ {
		if got := chart.Op(chart.Name(op)); got != op {
			t.Errorf("operation %d is found as %d", op, got)
		}
	}
	for _, name := range []string{"", " ", "Add", "ad", "adds "} {
		if got := chart.Op(name); got != 0 {
			t.Errorf("%q is operation %d", name, got)
		}
	}
}

func TestNamedHasWhatItsShapeHas(t *testing.T) {
	for _, x := range []struct{ got, want api.Ins }{
		{chart.Named("add", 1, 2, 3), api.Ins{Op: api.OpAdd, D: 1, A: 2, B: 3}},
		{chart.Named("clz", 1, 2), api.Ins{Op: api.OpClz, D: 1, A: 2}},
		{chart.Named("addi", 1, 2, -3), api.Ins{Op: api.OpAddi, D: 1, A: 2, N: -3}},
		{chart.Named("lui", 1, 3), api.Ins{Op: api.OpLui, D: 1, N: 3}},
		{chart.Named("jump", 3), api.Ins{Op: api.OpJump, N: 3}},
		{chart.Named("jr", 2), api.Ins{Op: api.OpJr, A: 2}},
		{chart.Named("halt"), api.Ins{Op: api.OpHalt}},
	} {
		if x.got != x.want {
			t.Errorf("%+v, want %+v", x.got, x.want)
		}
	}
	if !panics(func() { chart.Named("load", 1) }) {
		t.Error("a name that is none has an instruction")
	}
}

// panics: does it?
func panics(do func()) (did bool) {
	defer func() { did = recover() != nil }()
	do()
	return
}

func TestNumbersOfLetters(t *testing.T) {
	for _, letter := range []byte("dabsu-") {
		low, high := chart.Bounds(letter)
		for _, x := range chart.Within(letter) {
			if x < low || x > high {
				t.Errorf("%d is within %c", x, letter)
			}
		}
		for _, x := range chart.Beyond(letter) {
			if x >= low && x <= high {
				t.Errorf("%d is beyond %c", x, letter)
			}
		}
		if l := chart.Within(letter); !slices.Contains(l, low) || !slices.Contains(l, high) {
			t.Errorf("within %c are %v", letter, l)
		}
	}
}

func TestSomeInstructionsOfEachOperation(t *testing.T) {
	times, seen := [44]int{}, map[api.Ins]bool{}
	for i := range chart.Some {
		times[i.Op]++
		if seen[i] {
			t.Fatalf("%+v stands twice", i)
		}
		seen[i] = true
	}
	for op, n := range times {
		want := 1
		for _, letter := range []byte(chart.Shape(op)) {
			want *= len(chart.Within(letter))
		}
		if op == 0 {
			want = 0
		}
		if n != want {
			t.Errorf("%d instructions of operation %d, want %d", n, op, want)
		}
	}
}
