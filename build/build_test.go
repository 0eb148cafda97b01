package build_test

import (
	"math"
	"slices"
	"strconv"
	"strings"
	"testing"

	"astrolabe/api"
	"astrolabe/build"
	"astrolabe/chart"
)

func TestExample(t *testing.T) {
	b := build.New()
	if e := b.Set(1, 100000); e != api.OK {
		t.Errorf("Set = %v", e)
	}
	want := []uint32{33<<26 + 1<<21 + 1, 32<<26 + 1<<21 + 1<<16 + 34464}
	if l, name, e := b.Finish(); !slices.Equal(l, want) || name != "" || e != api.OK {
		t.Errorf("Finish() = %v, %q, %v, want %v", l, name, e, want)
	}
	(&pair{b: b}).checkLines(t, "lui r1 1", "ori r1 r1 34464")
}

// P21.1: New, Ins, Label, Len

func TestNewHasNoInstructions(t *testing.T) {
	x := made(t)
	x.check(t)
	x.checkFinish(t, nil, "", api.OK)
	if n := x.b.Len(); n != 0 {
		t.Errorf("Len() = %d", n)
	}
}

func TestInsByExactAnswers(t *testing.T) {
	b := build.New()
	for k, i := range []api.Ins{
		{Op: api.OpLw, D: 1, N: 40},
		{Op: api.OpMulq, D: 31, A: 30, B: 29},
		{Op: api.OpNop},
		{Op: api.OpAddi, D: 2, A: 3, N: -1},
		{Op: api.OpBeq, D: 4, A: 5, N: 65535},
		{Op: api.OpNop},
		{Op: api.OpJr, A: 6},
		{Op: api.OpHalt},
	} {
		if e := b.Ins(i); e != api.OK {
			t.Errorf("Ins(%+v) = %v", i, e)
		}
		if n := b.Len(); n != k+1 {
			t.Errorf("Len() = %d, want %d", n, k+1)
		}
	}
	(&pair{b: b}).checkLines(t, "lw r1 r0 40", "mulq r31 r30 r29", "nop", "addi r2 r3 -1", "beq r4 r5 65535", "nop", "jr r6", "halt")
}

func TestInsOfManyInstructions(t *testing.T) {
	x := made(t)
	for i := range chart.Some {
		x.ins(t, i.Op, [4]int{i.D, i.A, i.B, i.N})
		if x.b.Len() == most {
			x.check(t)
			x = made(t)
		}
	}
	x.check(t)
}

func TestInsOfEachFieldThatMayNotBe(t *testing.T) {
	x := made(t)
	for op := 1; op <= 43; op++ {
		for k := range 4 {
			for _, n := range chart.Beyond(chart.Shape(op)[k]) {
				field := chart.Greatest(op)
				field[k] = n
				x.ins(t, op, field)
			}
		}
		x.check(t)
		x.ins(t, op, chart.Least(op))
		x.ins(t, op, chart.Greatest(op))
		x.check(t)
	}
	if n := x.b.Len(); n != 86 {
		t.Errorf("Len() = %d, want 86", n)
	}
}

func TestInsOfNoOperation(t *testing.T) {
	x := made(t)
	for range 2 {
		for _, op := range chart.Others() {
			x.ins(t, op, [4]int{})
			x.ins(t, op, [4]int{32, -1, 1, 65536})
		}
		x.check(t)
		x.nops(t, 1)
	}
	x.check(t)
}

func TestInsByExactErrors(t *testing.T) {
	b := build.New()
	for _, x := range []struct {
		i api.Ins
		e api.Errno
	}{
		{api.Ins{}, api.ErrArg},
		{api.Ins{Op: 44}, api.ErrArg},
		{api.Ins{Op: 44, D: 99, A: -1, B: 32, N: 1 << 40}, api.ErrArg},
		{api.Ins{Op: api.OpAdd, D: 32, N: 1}, api.ErrRange},
		{api.Ins{Op: api.OpAdd, N: 1}, api.ErrForm},
		{api.Ins{Op: api.OpJump, D: 1, N: 65536}, api.ErrForm},
		{api.Ins{Op: api.OpJump, N: 65536}, api.ErrRange},
		{api.Ins{Op: api.OpAddi, N: 32768}, api.ErrRange},
		{api.Ins{Op: api.OpHalt, N: 1}, api.ErrForm},
	} {
		if e := b.Ins(x.i); e != x.e {
			t.Errorf("Ins(%+v) = %v, want %v", x.i, e, x.e)
		}
	}
	if n := b.Len(); n != 0 {
		t.Errorf("Len() = %d", n)
	}
}

func TestLabelIsOfThePlaceBehindAllInstructions(t *testing.T) {
	x := made(t)
	x.label(t, "first")
	x.jump(t, "last")
	x.label(t, "second")
	x.label(t, "again")
	x.jump(t, "first")
	x.goTo(t, api.OpBlt, 1, 2, "second")
	x.goTo(t, api.OpJal, 3, 0, "again")
	x.label(t, "last")
	if n := x.b.Len(); n != 4 {
		t.Errorf("Len() = %d", n)
	}
	x.checkLines(t, "jump 4", "jump 0", "blt r1 r2 1", "jal r3 1")
	x.check(t)
}

func TestLabelOfWhatIsNoName(t *testing.T) {
	x := made(t)
	for range 3 {
		for _, name := range noNames {
			if e := x.b.Label(name); e != api.ErrName {
				t.Fatalf("Label(%q) = %v, want %v", name, e, api.ErrName)
			}
		}
		x.check(t)
		x.nops(t, 1)
	}
	x.label(t, "abcdefghijklmnopqrstuvwx")
	x.jump(t, "abcdefghijklmnopqrstuvwx")
	x.checkLines(t, "nop", "nop", "nop", "jump 3")
}

func TestLabelOfANameThatHasAPlace(t *testing.T) {
	x := made(t)
	x.nops(t, 2)
	x.label(t, "a")
	for range 3 {
		if e := x.b.Label("a"); e != api.ErrTwice {
			t.Fatalf("Label = %v, want %v", e, api.ErrTwice)
		}
		x.jump(t, "a")
		x.check(t)
	}
	// Of another name, one that begins alike too, it is not twice.
	x.label(t, "aa")
	x.label(t, "b")
	x.label(t, "a_")
	x.jump(t, "aa")
	x.check(t)
	x.checkLines(t, "nop", "nop", "jump 2", "jump 2", "jump 2", "jump 5")
}

func TestLabelsOfManyPlaces(t *testing.T) {
	x := made(t)
	some := chart.Names(300)
	for k, name := range some {
		x.label(t, name)
		x.nops(t, k%4)
		x.jump(t, some[k*7%300])
		x.label(t, some[k*k%300])
	}
	x.check(t)
}

func TestLenIsOfInstructionsAlone(t *testing.T) {
	x := made(t)
	for k, name := range chart.Names(50) {
		x.label(t, name)
		x.label(t, name)
		x.label(t, name+"$")
		x.ins(t, 0, [4]int{})
		x.goTo(t, api.OpNop, 0, 0, name)
		x.set(t, 32, 7)
		x.loop(t, 1, 2, 0, "l", nil)
		if n := x.b.Len(); n != k {
			t.Fatalf("Len() = %d, want %d", n, k)
		}
		x.nops(t, 1)
	}
	x.check(t)
}

// P21.2: Go

func TestGoOfEachOperation(t *testing.T) {
	x := made(t)
	x.nops(t, 5)
	x.label(t, "end")
	for op := 1; op <= 43; op++ {
		// Whether registers and the name may be or not.
		for _, d := range []int{0, 1, 31, 32, -1} {
			for _, name := range []string{"end", "End", ""} {
				x.goTo(t, op, d, 0, name)
				x.goTo(t, op, 0, d, name)
			}
		}
	}
	x.check(t)
	for _, op := range chart.Others() {
		for _, name := range []string{"end", "none", ""} {
			if e := x.b.Go(op, 0, 0, name); e != api.ErrArg {
				t.Fatalf("Go of operation %d = %v, want %v", op, e, api.ErrArg)
			}
		}
	}
	x.check(t)
}

func TestGoByExactAnswers(t *testing.T) {
	x := made(t)
	x.goTo(t, api.OpBeq, 1, 2, "here")
	x.goTo(t, api.OpBne, 31, 30, "here")
	x.goTo(t, api.OpBlt, 0, 0, "here")
	x.label(t, "here")
	x.goTo(t, api.OpJump, 0, 0, "here")
	x.goTo(t, api.OpJal, 31, 0, "here")
	x.checkLines(t, "beq r1 r2 3", "bne r31 r30 3", "blt r0 r0 3", "jump 3", "jal r31 3")
}

func TestGoByExactErrors(t *testing.T) {
	b := build.New()
	for _, x := range []struct {
		op, d, a int
		name     string
		want     api.Errno
	}{
		{api.OpJr, 0, 1, "a", api.ErrArg},
		{api.OpAddi, 32, 32, "", api.ErrArg},
		{api.OpNop, 0, 0, "a", api.ErrArg},
		{api.OpHalt, 0, 0, "A", api.ErrArg},
		{api.OpLw, 1, 1, "a", api.ErrArg},
		{0, 32, -1, "", api.ErrArg},
		{44, 0, 0, "a", api.ErrArg},
		{api.OpBeq, 32, 0, "a", api.ErrRange},
		{api.OpBne, 0, 32, "a", api.ErrRange},
		{api.OpBlt, -1, 0, "", api.ErrRange},
		{api.OpBlt, 0, -1, "A", api.ErrRange},
		{api.OpJump, 1, 0, "a", api.ErrForm},
		{api.OpJump, 0, 1, "", api.ErrForm},
		{api.OpJump, -1, 99, "a", api.ErrForm},
		{api.OpJal, 32, 1, "a", api.ErrRange},
		{api.OpJal, 31, 1, "A", api.ErrForm},
		{api.OpJal, 31, 0, "A", api.ErrName},
		{api.OpJump, 0, 0, "", api.ErrName},
		{api.OpBeq, 31, 31, "_", api.ErrName},
	} {
		if e := b.Go(x.op, x.d, x.a, x.name); e != x.want {
			t.Errorf("Go(%d, %d, %d, %q) = %v, want %v", x.op, x.d, x.a, x.name, e, x.want)
		}
		if n := b.Len(); n != 0 {
			t.Errorf("behind Go(%d, %d, %d, %q) Len() = %d", x.op, x.d, x.a, x.name, n)
		}
	}
	// None of them is a use of a name.
	(&pair{b: b}).checkFinish(t, nil, "", api.OK)
}

func TestGoOfEachRegister(t *testing.T) {
	for _, op := range gone {
		x := made(t)
		for d := -2; d < 35; d++ {
			for a := -2; a < 35; a++ {
				x.goTo(t, op, d, a, "end")
			}
		}
		for _, r := range far {
			x.goTo(t, op, r, 0, "end")
			x.goTo(t, op, 0, r, "end")
			x.goTo(t, op, r, r, "no name")
		}
		x.label(t, "end")
		x.check(t)
	}
}

func TestGoOfWhatIsNoName(t *testing.T) {
	x := made(t)
	for range 2 {
		for _, name := range noNames {
			for _, op := range gone {
				x.goTo(t, op, 0, 0, name)
			}
		}
		x.check(t)
		x.nops(t, 1)
	}
	x.checkLines(t, "nop", "nop")
}

func TestWhatGoRefusesIsNoUse(t *testing.T) {
	x := made(t)
	x.goTo(t, api.OpJr, 0, 1, "r")
	x.goTo(t, api.OpBeq, 32, 0, "s")
	x.goTo(t, api.OpJump, 0, 1, "t")
	x.goTo(t, api.OpLui, 0, 0, "u")
	x.check(t)
	x.checkFinish(t, nil, "", api.OK)
	x.jump(t, "v")
	x.check(t)
	x.checkFinish(t, nil, "v", api.ErrNone)
}

func TestNamesAreUsedAheadAndBehind(t *testing.T) {
	for first := range 7 {
		for second := range 7 {
			x := made(t)
			for at := range 7 {
				if at == first {
					x.label(t, "a")
				}
				if at == second {
					x.label(t, "b")
				}
				x.goTo(t, gone[at%5], 0, 0, []string{"a", "b"}[at%2])
				x.check(t)
			}
			x.check(t)
		}
	}
}

// P21.2: Set

func TestSetByExactAnswers(t *testing.T) {
	for _, x := range []struct {
		n     int32
		lines []string
	}{
		{0, []string{"addi r5 r0 0"}},
		{-1, []string{"addi r5 r0 -1"}},
		{32767, []string{"addi r5 r0 32767"}},
		{-32768, []string{"addi r5 r0 -32768"}},
		{32768, []string{"lui r5 0", "ori r5 r5 32768"}},
		{-32769, []string{"lui r5 65535", "ori r5 r5 32767"}},
		{40000, []string{"lui r5 0", "ori r5 r5 40000"}},
		{65535, []string{"lui r5 0", "ori r5 r5 65535"}},
		{65536, []string{"lui r5 1", "ori r5 r5 0"}},
		{-65536, []string{"lui r5 65535", "ori r5 r5 0"}},
		{-65537, []string{"lui r5 65534", "ori r5 r5 65535"}},
		{1 << 30, []string{"lui r5 16384", "ori r5 r5 0"}},
		{1<<31 - 1, []string{"lui r5 32767", "ori r5 r5 65535"}},
		{-1 << 31, []string{"lui r5 32768", "ori r5 r5 0"}},
		{-40000, []string{"lui r5 65535", "ori r5 r5 25536"}},
	} {
		b := build.New()
		if e := b.Set(5, x.n); e != api.OK {
			t.Errorf("Set(5, %d) = %v", x.n, e)
		}
		(&pair{b: b}).checkLines(t, x.lines...)
	}
}

// numbers are words around each power of 2, and some without a pattern.
func numbers() []int32 {
	var l []int32
	for bits := range 32 {
		for k := range 5 {
			l = append(l, 1<<bits+int32(k)-2, -1<<bits+int32(k)-2)
		}
	}
	for k := range uint32(2000) {
		l = append(l, int32(k*1664525*k+1013904223))
	}
	return l
}

func TestSetOfManyNumbers(t *testing.T) {
	x := made(t)
	for k, n := range numbers() {
		x.set(t, k%32, n)
	}
	x.check(t)
	for n := -33000; n <= 33000; n += 7 {
		x = made(t)
		x.set(t, 9, int32(n))
		x.check(t)
	}
}

func TestSetOfEachRegister(t *testing.T) {
	x := made(t)
	for _, n := range []int32{0, 32767, 32768, -32768, -32769, math.MinInt32, math.MaxInt32} {
		for d := -3; d < 36; d++ {
			x.set(t, d, n)
		}
		for _, d := range far {
			x.set(t, d, n)
		}
		x.check(t)
	}
}

func TestSetOfWhatIsNoRegister(t *testing.T) {
	b := build.New()
	for _, d := range append([]int{-1, 32, 33, 63, 64}, far...) {
		for _, n := range []int32{0, 5, -32768, 32767, 32768, -32769, 1 << 30} {
			if e := b.Set(d, n); e != api.ErrRange || b.Len() != 0 {
				t.Errorf("Set(%d, %d) = %v, Len() = %d", d, n, e, b.Len())
			}
		}
	}
}

// P21.3: Loop

func TestLoopByExactAnswers(t *testing.T) {
	b := build.New()
	b.Ins(api.Ins{Op: api.OpNop})
	e := b.Loop(1, 2, 5, "loop", func() {
		b.Set(3, 7)
		b.Ins(api.Ins{Op: api.OpMul, D: 3, A: 3, B: 1})
	})
	if e != api.OK {
		t.Errorf("Loop = %v", e)
	}
	b.Ins(api.Ins{Op: api.OpHalt})
	(&pair{b: b}).checkLines(t, "nop", "addi r1 r0 0", "addi r2 r0 5", "addi r3 r0 7", "mul r3 r3 r1", "addi r1 r1 1", "blt r1 r2 3", "halt")
}

func TestLoopOfNothing(t *testing.T) {
	for _, do := range []func(){nil, func() {}} {
		b := build.New()
		if e := b.Loop(31, 1, 32767, "z", do); e != api.OK {
			t.Errorf("Loop = %v", e)
		}
		(&pair{b: b}).checkLines(t, "addi r31 r0 0", "addi r1 r0 32767", "addi r31 r31 1", "blt r31 r1 2")
	}
}

func TestLoopOfEachTwoRegisters(t *testing.T) {
	x := made(t)
	k := 0
	for c := -2; c < 35; c++ {
		for l := -2; l < 35; l++ {
			k++
			x.loop(t, c, l, 1+k, "n"+strconv.Itoa(k), func() { x.nops(t, k%2) })
			x.bare(t, c, l, 1+k, "m"+strconv.Itoa(k))
		}
	}
	x.check(t)
	n := x.b.Len()
	for _, r := range far {
		for _, other := range []int{1, 31, r, r + 1, 0} {
			x.loop(t, r, other, 3, "far", nil)
			x.loop(t, other, r, 3, "far", nil)
		}
	}
	if x.b.Len() != n {
		t.Errorf("Len() = %d, want %d", x.b.Len(), n)
	}
	x.check(t)
}

func TestLoopOfManyCounts(t *testing.T) {
	x := made(t)
	counts := append([]int{1, 2, 3, 255, 256, 257, 1000, 16384, 32766, 32767, 0, -1, -2, -32767, -32768, 32768, 32769, 65535}, far...)
	for k, n := range counts {
		x.loop(t, 4, 5, n, "n"+strconv.Itoa(k), nil)
		x.bare(t, 5, 4, n, "m"+strconv.Itoa(k))
		x.check(t)
	}
	if got, want := x.b.Len(), 10*2*4; got != want {
		t.Errorf("Len() = %d, want %d", got, want)
	}
}

func TestLoopByExactErrors(t *testing.T) {
	b := build.New()
	b.Label("had")
	for _, x := range []struct {
		c, l, n int
		name    string
		want    api.Errno
	}{
		{0, 2, 3, "a", api.ErrRange},
		{1, 0, 3, "a", api.ErrRange},
		{32, 2, 3, "a", api.ErrRange},
		{1, 32, 3, "a", api.ErrRange},
		{-1, 2, 3, "had", api.ErrRange},
		{1, -1, 3, "A", api.ErrRange},
		{1, 1, 3, "a", api.ErrRange},
		{2, 2, 3, "had", api.ErrRange},
		{31, 31, 3, "", api.ErrRange},
		{1, 2, 0, "a", api.ErrRange},
		{1, 2, -1, "had", api.ErrRange},
		{1, 2, 32768, "", api.ErrRange},
		{1, 2, 1, "", api.ErrName},
		{1, 2, 32767, "Had", api.ErrName},
		{2, 1, 3, "had", api.ErrTwice},
		{31, 30, 32767, "had", api.ErrTwice},
	} {
		e := b.Loop(x.c, x.l, x.n, x.name, func() { t.Errorf("of %v do is called", x) })
		if e != x.want || b.Len() != 0 {
			t.Errorf("of %v Loop = %v, Len() = %d", x, e, b.Len())
		}
		if e := b.Loop(x.c, x.l, x.n, x.name, nil); e != x.want || b.Len() != 0 {
			t.Errorf("of %v, with a nil do, Loop = %v, Len() = %d", x, e, b.Len())
		}
	}
	// None of them gave a name its place, or used one.
	(&pair{b: b}).checkFinish(t, nil, "", api.OK)
	if e := b.Label("a"); e != api.OK {
		t.Errorf("Label = %v", e)
	}
}

func TestLoopOfNamesThatLabelRefuses(t *testing.T) {
	x := made(t)
	x.label(t, "a")
	x.nops(t, 3)
	x.loop(t, 1, 2, 3, "b", nil)
	for _, name := range append([]string{"a", "b"}, noNames...) {
		n := x.b.Len()
		x.loop(t, 1, 2, 3, name, func() { x.nops(t, 1) })
		x.bare(t, 1, 2, 3, name)
		if x.b.Len() != n {
			t.Fatalf("of %q Len() = %d, want %d", name, x.b.Len(), n)
		}
		x.check(t)
	}
	// What is refused as a place may be used.
	x.jump(t, "a")
	x.jump(t, "b")
	x.check(t)
}

func TestALoopsNameHasItsPlaceWhenDoIsCalled(t *testing.T) {
	x := made(t)
	x.jump(t, "loop")
	x.loop(t, 6, 7, 8, "loop", func() {
		x.check(t)
		x.label(t, "loop")
		x.label(t, "inside")
		x.loop(t, 8, 9, 3, "loop", func() { x.nops(t, 1) })
		x.jump(t, "loop")
		x.jump(t, "inside")
		x.jump(t, "end")
		x.checkFinish(t, nil, "end", api.ErrNone)
	})
	x.label(t, "loop")
	x.label(t, "end")
	x.jump(t, "loop")
	x.check(t)
	x.checkLines(t, "jump 3", "addi r6 r0 0", "addi r7 r0 8", "jump 3", "jump 3", "jump 8", "addi r6 r6 1", "blt r6 r7 3", "jump 3")
}

func TestLoopsWithinLoops(t *testing.T) {
	x := made(t)
	var nest func(depth int)
	nest = func(depth int) {
		if depth == 15 {
			x.ins(t, api.OpAdd, [4]int{31, 1, 2, 0})
			return
		}
		x.set(t, 31, int32(depth)<<20)
		x.loop(t, 2*depth+1, 2*depth+2, depth+1, "loop_"+strconv.Itoa(depth), func() { nest(depth + 1) })
		x.loop(t, 2*depth+2, 2*depth+1, depth+2, "again_"+strconv.Itoa(depth), func() { x.nops(t, depth) })
		x.check(t)
	}
	nest(0)
	x.check(t)
}

func TestWhatDoDoesMayBeRefused(t *testing.T) {
	x := made(t)
	x.loop(t, 1, 2, 3, "a", func() {
		x.ins(t, 0, [4]int{})
		x.goTo(t, api.OpNop, 0, 0, "a")
		x.jump(t, "")
		x.set(t, 32, 99999)
		x.label(t, "a")
		x.loop(t, 3, 3, 3, "b", nil)
	})
	x.checkLines(t, "addi r1 r0 0", "addi r2 r0 3", "addi r1 r1 1", "blt r1 r2 2")
	x.check(t)
}

// A panic of what is handed in is no panic of the call.
func TestLoopWhoseDoPanics(t *testing.T) {
	var none *api.Ins
	for _, fail := range []func(){func() { panic("no") }, func() { panic(nil) }, func() { panic(api.ErrArg) }, func() { none.Op = 1 }} {
		b := build.New()
		e := b.Loop(1, 2, 3, "a", func() {
			b.Ins(api.Ins{Op: api.OpNop})
			fail()
			b.Ins(api.Ins{Op: api.OpHalt})
		})
		if e != api.OK {
			t.Errorf("Loop = %v", e)
		}
		(&pair{b: b}).checkLines(t, "addi r1 r0 0", "addi r2 r0 3", "nop", "addi r1 r1 1", "blt r1 r2 2")
	}
}

// What takes a builder away while it makes a loop is no panic of the call, either.
func TestLoopWhoseDoTakesTheBuilderAway(t *testing.T) {
	b := build.New()
	b.Loop(1, 2, 3, "a", func() { *b = build.Builder{} })
	checkNone(t, b)
}

// P21.4: Finish

func TestFinishTellsTheFirstUseWhoseNameHasNoPlace(t *testing.T) {
	x := made(t)
	x.label(t, "b")
	for _, name := range []string{"b", "z", "a", "z", "c", "b"} {
		x.jump(t, name)
		x.check(t)
	}
	x.checkFinish(t, nil, "z", api.ErrNone)
	x.label(t, "c")
	x.checkFinish(t, nil, "z", api.ErrNone)
	x.label(t, "z")
	x.checkFinish(t, nil, "a", api.ErrNone)
	x.label(t, "a")
	x.check(t)
	x.checkLines(t, "jump 0", "jump 6", "jump 6", "jump 6", "jump 6", "jump 0")
	x.goTo(t, api.OpJal, 1, 0, "none")
	x.checkFinish(t, nil, "none", api.ErrNone)
	x.check(t)
}

func TestFinishOfTheMostInstructionsAndOfMore(t *testing.T) {
	for _, n := range []int{most - 2, most - 1, most} {
		x := made(t)
		x.jump(t, "end")
		x.nops(t, n-1)
		x.checkFinish(t, nil, "end", api.ErrNone)
		x.label(t, "end")
		x.check(t)
		if l, _, e := x.b.Finish(); len(l) != n || e != api.OK || l[0] != 39<<26+uint32(n) {
			t.Errorf("Finish() of %d instructions = %d words, %v", n, len(l), e)
		}
		x.nops(t, most-n)
		x.check(t)
		for range 3 {
			x.nops(t, 1)
			x.checkFinish(t, nil, "", api.ErrLong)
			x.check(t)
		}
		// That a name has no place is told ahead of it.
		x.goTo(t, api.OpBne, 1, 2, "none")
		x.checkFinish(t, nil, "none", api.ErrNone)
		x.label(t, "none")
		x.checkFinish(t, nil, "", api.ErrLong)
		if got := x.b.Len(); got != most+4 {
			t.Errorf("Len() = %d, want %d", got, most+4)
		}
	}
}

func TestFinishOfTheMostInstructionsByEachCall(t *testing.T) {
	for _, more := range []func(x *pair){
		func(x *pair) { x.nops(t, 4) },
		func(x *pair) { x.set(t, 1, 99999); x.set(t, 1, -99999) },
		func(x *pair) { x.bare(t, 1, 2, 3, "loop") },
		func(x *pair) {
			for _, op := range gone[1:] {
				x.goTo(t, op, 0, 0, "start")
			}
		},
	} {
		x := made(t)
		x.label(t, "start")
		x.nops(t, most-4)
		more(x)
		x.check(t)
		if l, _, e := x.b.Finish(); len(l) != most || e != api.OK {
			t.Errorf("Finish() = %d words, %v", len(l), e)
		}
		x.label(t, "more")
		x.set(t, 0, 0)
		x.check(t)
		x.checkFinish(t, nil, "", api.ErrLong)
	}
}

func TestFinishOfFarTooManyInstructions(t *testing.T) {
	const n = 1 << 18
	b := build.New()
	for k := range n {
		e := b.Go(api.OpJump, 0, 0, "a")
		if k%2 == 0 {
			e = b.Ins(api.Ins{Op: api.OpHalt})
		}
		if e != api.OK {
			t.Fatal(e)
		}
	}
	x := &pair{b: b}
	x.checkFinish(t, nil, "a", api.ErrNone)
	if e := b.Label("a"); e != api.OK {
		t.Error(e)
	}
	x.checkFinish(t, nil, "", api.ErrLong)
	if got := b.Len(); got != n+n/2 {
		t.Errorf("Len() = %d", got)
	}
}

func TestFinishChangesNothing(t *testing.T) {
	x := made(t)
	some := chart.Names(40)
	for k, name := range some {
		for range 3 {
			x.check(t)
		}
		x.jump(t, some[(k*11+3)%40])
		x.loop(t, 1+k%31, 1+(k+9)%31, k+1, "loop_"+strconv.Itoa(k), func() { x.check(t) })
		x.label(t, name)
	}
	x.check(t)
	if _, _, e := x.b.Finish(); e != api.OK {
		t.Errorf("Finish() = %v", e)
	}
}

func TestNilAndWhatNewDidNotMake(t *testing.T) {
	checkNone(t, nil)
	checkNone(t, new(build.Builder))
	checkNone(t, &build.Builder{})
	var own build.Builder
	checkNone(t, &own)
	made(t).nops(t, 2)
	checkNone(t, &own)
}

func TestACopyIsNoneThatNewMade(t *testing.T) {
	x := made(t)
	x.nops(t, 2)
	x.label(t, "a")
	c := *x.b
	checkNone(t, &c)
	x.jump(t, "a")
	x.check(t)
	checkNone(t, &c)
	other := made(t).b
	*other = *x.b
	checkNone(t, other)
	x.check(t)
	// A copy that is put back changes nothing, and none of the calls panics.
	*x.b = c
	x.check(t)
	*x.b = build.Builder{}
	checkNone(t, x.b)
}

// What holds of all calls.

// ask asks a builder for something, told by numbers.
func ask(t *testing.T, x *pair, next func(below int) int, some []string) {
	t.Helper()
	name := some[next(len(some))]
	if next(20) == 0 {
		name = noNames[next(len(noNames))]
	}
	switch next(8) {
	case 0, 1:
		op := next(46)
		if op < 1 || op > 43 {
			x.ins(t, op, [4]int{})
			return
		}
		field := chart.Least(op)
		if next(2) == 0 {
			field = chart.Greatest(op)
		}
		field[next(4)] += next(3)
		x.ins(t, op, field)
	case 2, 3:
		x.label(t, name)
	case 4, 5:
		x.goTo(t, gone[next(5)]+next(9)/8, next(34)-1, next(10)/9, name)
	case 6:
		x.set(t, next(34)-1, int32(next(1<<17)-1<<16))
	case 7:
		x.loop(t, next(33), next(33), next(100), name, func() {
			for range next(4) {
				ask(t, x, next, some)
			}
			x.check(t)
		})
	}
}

func TestALongRowOfAsks(t *testing.T) {
	oks, nones := 0, 0
	for seed := range 60 {
		chance := uint32(seed)
		next := func(below int) int {
			chance = chance*1103515245 + 12345
			return int(chance>>8) % below
		}
		x, some := made(t), chart.Names(5+seed)
		for range 150 {
			ask(t, x, next, some)
			x.check(t)
			if _, _, e := x.b.Finish(); e == api.OK {
				oks++
			} else {
				nones++
			}
		}
		for _, name := range some {
			x.label(t, name)
		}
		x.check(t)
		if _, _, e := x.b.Finish(); e != api.OK {
			t.Errorf("Finish() = %v", e)
		}
	}
	if oks < 500 || nones < 500 {
		t.Errorf("%d times all names have a place, %d times they have not", oks, nones)
	}
}

func TestAllRowsOfAFewAsks(t *testing.T) {
	var each []func(x *pair)
	for _, name := range []string{"a", "b", "B"} {
		each = append(each,
			func(x *pair) { x.label(t, name) },
			func(x *pair) { x.goTo(t, api.OpJal, 3, 0, name) },
			func(x *pair) { x.bare(t, 1, 2, 9, name) })
	}
	each = append(each,
		func(x *pair) { x.loop(t, 2, 1, 3, "b", func() { x.label(t, "a"); x.jump(t, "b") }) },
		func(x *pair) { x.goTo(t, api.OpBeq, 32, 0, "a") },
		func(x *pair) { x.set(t, 1, 70000) },
		func(x *pair) { x.nops(t, 1) })
	// A builder can't be asked back, so that each row is asked anew.
	var tell func(row []func(x *pair), left int)
	tell = func(row []func(x *pair), left int) {
		x := made(t)
		for _, y := range row {
			y(x)
		}
		x.check(t)
		for _, y := range each {
			if left > 0 {
				tell(append(slices.Clip(row), y), left-1)
			}
		}
	}
	tell(nil, 4)
}

func TestAnswersAreNewMemory(t *testing.T) {
	x := made(t)
	x.loop(t, 1, 2, 9, "a", func() { x.set(t, 3, 1<<20) })
	x.jump(t, "a")
	for range 3 {
		l, _, _ := x.b.Finish()
		clear(l[:cap(l)])
		_ = append(l[:0], 1, 2, 3)
		x.check(t)
	}
	// An answer stays as it was, too, whatever is asked later.
	l, _, _ := x.b.Finish()
	was := slices.Clone(l)
	x.nops(t, 9)
	x.jump(t, "a")
	x.check(t)
	if !slices.Equal(l, was) {
		t.Errorf("an answer is now %v", l)
	}
}

func TestTwoBuildersKnowNothingOfOneAnother(t *testing.T) {
	x, y := made(t), made(t)
	x.label(t, "a")
	y.nops(t, 3)
	y.label(t, "a")
	x.jump(t, "a")
	x.jump(t, "b")
	y.check(t)
	y.loop(t, 1, 2, 3, "b", func() {
		x.loop(t, 2, 1, 4, "c", func() { y.nops(t, 1); x.nops(t, 2) })
		y.jump(t, "a")
	})
	x.check(t)
	y.check(t)
	x.checkFinish(t, nil, "b", api.ErrNone)
	x.label(t, "b")
	x.check(t)
	made(t).check(t)
}

// Names that are pieces of one text, or that are put together, are the same.
func TestNamesAreToldByTheirBytes(t *testing.T) {
	x := made(t)
	text := strings.Repeat("abc_9", 1000)
	x.nops(t, 1)
	x.jump(t, text[5:8])
	x.label(t, "ab"+text[2:3])
	b := []byte("abc")
	x.jump(t, string(b))
	clear(b)
	x.checkLines(t, "nop", "jump 2", "jump 2")
	x.check(t)
}
