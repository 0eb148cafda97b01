package graph_test

import (
	"math"
	"slices"
	"testing"

	"astrolabe/api"
	"astrolabe/chart"
	"astrolabe/graph"
)

// far are numbers that are no place, some of them one when cut to fewer bits.
var far = []int{-1, -2, -64, -65536, math.MinInt, math.MinInt + 1, math.MaxInt, math.MaxInt - 1, 1 << 32, 1<<32 + 1, -1 << 32, -1<<32 + 1, 1 << 31, -1 << 31, 1 << 16, 1 << 20, 1<<62 + 1}

// Instructions by what they do to where it goes on.

func nop() api.Ins         { return api.Ins{Op: api.OpNop} }
func halt() api.Ins        { return api.Ins{Op: api.OpHalt} }
func jump(n int) api.Ins   { return api.Ins{Op: api.OpJump, N: n} }
func jal(n int) api.Ins    { return api.Ins{Op: api.OpJal, D: 1, N: n} }
func beq(n int) api.Ins    { return api.Ins{Op: api.OpBeq, N: n} }
func bne(n int) api.Ins    { return api.Ins{Op: api.OpBne, D: 1, N: n} }
func blt(n int) api.Ins    { return api.Ins{Op: api.OpBlt, D: 1, A: 2, N: n} }
func jr() api.Ins          { return api.Ins{Op: api.OpJr, A: 1} }
func stray() api.Ins       { return api.Ins{} }
func nops(n int) []api.Ins { return slices.Repeat([]api.Ins{nop()}, n) }

// check holds all calls of code, at each place, and each two.
func check(t *testing.T, l plain) {
	t.Helper()
	w, x := l.words(), l.tell()
	checkWhole(t, l, w, x)
	for p := range l {
		if got := graph.Next(w, p); !slices.Equal(got, x.onwards[p]) {
			t.Fatalf("of %v Next(%d) = %v, want %v", l, p, got, x.onwards[p])
		}
		if got := graph.Loop(w, p); !slices.Equal(got, x.loops[p]) {
			t.Fatalf("of %v Loop(%d) = %v, want %v", l, p, got, x.loops[p])
		}
		for q := range l {
			if got := graph.Ahead(w, p, q); got != x.ahead[p][q] {
				t.Fatalf("of %v Ahead(%d, %d) = %t", l, p, q, got)
			}
		}
	}
	for _, p := range []int{-1, len(l), len(l) + 1} {
		checkNoPlace(t, l, w, p)
	}
}

// checkWhole holds the calls of code as a whole.
func checkWhole(t *testing.T, l plain, w []uint32, x told) {
	t.Helper()
	if got := graph.Reached(w); !slices.Equal(got, x.reached) {
		t.Fatalf("of %v Reached = %v, want %v", l, got, x.reached)
	}
	if got := graph.Backs(w); !slices.Equal(got, x.backs) {
		t.Fatalf("of %v Backs = %v, want %v", l, got, x.backs)
	}
	if got := graph.Cyclic(w); got != x.cyclic {
		t.Fatalf("of %v Cyclic = %t", l, got)
	}
}

// checkNoPlace holds the calls of a place that the code has not.
func checkNoPlace(t *testing.T, l plain, w []uint32, p int) {
	t.Helper()
	if got := graph.Next(w, p); len(got) != 0 {
		t.Fatalf("of %v Next(%d) = %v", l, p, got)
	}
	if got := graph.Loop(w, p); len(got) != 0 {
		t.Fatalf("of %v Loop(%d) = %v", l, p, got)
	}
	if graph.Ahead(w, p, 0) || graph.Ahead(w, 0, p) || graph.Ahead(w, p, p) {
		t.Fatalf("of %v, which has no place %d, one of it and 0 stands ahead", l, p)
	}
}

// The chapter's example.

func TestExample(t *testing.T) {
	l := plain{jump(1), beq(0)}
	w := l.words()
	if got := graph.Next(w, 1); !slices.Equal(got, []int{0}) {
		t.Errorf("Next(1) = %v, want 0", got)
	}
	if !graph.Ahead(w, 0, 1) {
		t.Error("0 does not stand ahead of 1")
	}
	if got := graph.Backs(w); !slices.Equal(got, []api.Fix{{At: 1, To: 0}}) {
		t.Errorf("Backs = %v, want 1 to 0", got)
	}
	if !graph.Cyclic(w) {
		t.Error("Cyclic = false")
	}
	check(t, l)
}

func TestOfNothing(t *testing.T) {
	for _, w := range [][]uint32{nil, {}} {
		if graph.Cyclic(w) || len(graph.Reached(w)) != 0 || len(graph.Backs(w)) != 0 {
			t.Errorf("%t, %v, %v", graph.Cyclic(w), graph.Reached(w), graph.Backs(w))
		}
		for _, p := range append([]int{0, 1, 63, 64}, far...) {
			checkNoPlace(t, nil, w, p)
		}
	}
}

// kinds are instructions of all kinds that matter, whose numbers are places of n, and the one behind them.
func kinds(n int) []api.Ins {
	l := []api.Ins{nop(), halt()}
	for p := range n + 1 {
		l = append(l, jump(p), beq(p))
	}
	return l
}

func TestAllCodeOfFewPlaces(t *testing.T) {
	check(t, nil)
	for n := 1; n <= 4; n++ {
		all := kinds(n)
		l, pick := make(plain, n), make([]int, n)
		for done := false; !done; {
			for p := range l {
				l[p] = all[pick[p]]
			}
			check(t, l)
			done = true
			for p := range pick {
				if pick[p]++; pick[p] < len(all) {
					done = false
					break
				}
				pick[p] = 0
			}
		}
	}
}

// some is code of n places without a pattern, of four kinds: with more or fewer jumps and ends, to near places or to any.
func some(c *chart.Chance, n int) plain {
	l := make(plain, n)
	kind := c.Below(4)
	for p := range l {
		to := c.Below(n + 1)
		if kind > 1 || c.Below(2) == 0 {
			to = min(max(p+c.Below(7)-3, 0), n)
		}
		switch k := c.Below(12); {
		case k < 3 && kind != 1, k == 0:
			l[p] = []api.Ins{beq(to), bne(to), blt(to)}[c.Below(3)]
		case k == 3 && kind == 0, k == 4 && kind != 3:
			l[p] = []api.Ins{jump(to), jal(to)}[c.Below(2)]
		case k == 5 && c.Below(2+kind) == 0:
			l[p] = []api.Ins{halt(), jr(), stray()}[c.Below(3)]
		case k > 6 && kind == 1:
			l[p] = beq(to)
		default:
			l[p] = nop()
		}
	}
	return l
}

func TestCodeWithoutAPattern(t *testing.T) {
	c := chart.Chance(1)
	loops, heads, several, cyclic, backs, beyond := 0, 0, 0, 0, 0, 0
	for k := range 4000 {
		l := some(&c, 1+c.Below(12+k%3*8))
		check(t, l)
		x := l.tell()
		for head, loop := range x.loops {
			loops += len(loop)
			if len(loop) > 1 {
				heads++
			}
			n := 0
			for _, b := range x.backs {
				if b.To == head {
					n++
				}
			}
			if n > 1 {
				several++
			}
		}
		if x.cyclic {
			cyclic++
			if len(x.backs) == 0 {
				beyond++
			}
		}
		backs += len(x.backs)
	}
	if loops < 10000 || heads < 2000 || several < 300 || cyclic < 1000 || cyclic > 3500 || backs < 3000 || beyond < 20 {
		t.Errorf("%d places of loops, %d loops of several, %d of several backs, %d cyclic, %d backs, %d cyclic without", loops, heads, several, cyclic, backs, beyond)
	}
}

func TestLongerCodeWithoutAPattern(t *testing.T) {
	c := chart.Chance(2)
	for k := range 10 {
		check(t, some(&c, 60+k*8))
	}
	for range 40 {
		l := some(&c, 200+c.Below(300))
		checkWhole(t, l, l.words(), l.tell())
	}
}

// P18.1: Next, Reached

func TestNextOfEachOperation(t *testing.T) {
	for op := 1; op <= 43; op++ {
		for _, fields := range [][4]int{{}, chart.Least(op), chart.Greatest(op)} {
			l := slices.Repeat(plain{nop()}, 9)
			for pc := range l {
				l[pc] = chart.Ins(op, fields)
				for n := range 11 {
					if low, high := chart.Bounds(chart.Shape(op)[3]); n >= low && n <= high {
						l[pc].N = n
						checkNext(t, l, pc)
					}
				}
				l[pc] = nop()
			}
		}
	}
}

// checkNext holds where it may go on from a place.
func checkNext(t *testing.T, l plain, pc int) {
	t.Helper()
	if got, want := graph.Next(l.words(), pc), l.next(pc); !slices.Equal(got, want) {
		t.Fatalf("Next of %v at %d of %d = %v, want %v", l[pc], pc, len(l), got, want)
	}
}

func TestNextByExactAnswers(t *testing.T) {
	w := plain{nop(), beq(0), bne(4), blt(3), jump(1), jal(5), jr(), halt(), {Op: api.OpAddi, N: 3}, {Op: api.OpOri, N: 3}, {Op: api.OpLui, N: 3}, {Op: api.OpLw, N: 3}, {Op: api.OpSw, N: 3},
		{Op: api.OpAdd, D: 1, A: 2, B: 3}, {Op: api.OpDiv}, {Op: api.OpHigh}, stray(), beq(18), beq(17), beq(20), blt(99), jump(21), jump(22), jal(65535), bne(25), nop()}.words()
	for pc, want := range [][]int{{1}, {0, 2}, {3, 4}, {3, 4}, {1}, {5}, nil, nil, {9}, {10}, {11}, {12}, {13}, {14}, {15}, {16}, nil, {18}, {17, 19}, {20}, {21}, {21}, {22}, nil, {25}, nil} {
		if got := graph.Next(w, pc); !slices.Equal(got, want) {
			t.Errorf("Next(%d) = %v, want %v", pc, got, want)
		}
	}
}

func TestNextOfWordsThatAreNoInstruction(t *testing.T) {
	for _, w := range chart.Strays() {
		for pc := range 3 {
			words := plain{nop(), nop(), nop(), nop()}.words()
			words[pc] = w
			if got := graph.Next(words, pc); len(got) != 0 {
				t.Errorf("Next of %#x = %v", w, got)
			}
			if got, want := graph.Reached(words), []bool{true, pc > 0, pc > 1, false}; !slices.Equal(got, want) {
				t.Errorf("Reached with %#x at %d = %v, want %v", w, pc, got, want)
			}
		}
	}
}

func TestNextOfAPlaceThatTheCodeHasNot(t *testing.T) {
	for n := range 5 {
		l := plain(slices.Repeat([]api.Ins{beq(0)}, n))
		for _, p := range append([]int{n, n + 1, 64, 65}, far...) {
			checkNoPlace(t, l, l.words(), p)
		}
	}
}

// Of the greatest N, and of places beyond it.
func TestPlacesBeyondTheGreatestNumber(t *testing.T) {
	l := append(plain{jump(65535)}, nops(65534)...)
	l = append(l, beq(65535), beq(1), bne(65534), halt(), beq(65535))
	w := l.words()
	for pc, want := range map[int][]int{0: {65535}, 65534: {65535}, 65535: {65535, 65536}, 65536: {1, 65537}, 65537: {65534, 65538}, 65538: nil, 65539: {65535}, 65540: nil} {
		if got := graph.Next(w, pc); !slices.Equal(got, want) {
			t.Errorf("Next(%d) = %v, want %v", pc, got, want)
		}
	}
	reached := slices.Repeat([]bool{true}, 65540)
	reached[65539] = false
	if got := graph.Reached(w); !slices.Equal(got, reached) {
		t.Error("Reached")
	}
	if got := graph.Backs(w); !slices.Equal(got, []api.Fix{{At: 65534, To: 65535}, {At: 65535, To: 65535}}) {
		t.Errorf("Backs = %v", got)
	}
	want := []int{65534, 65535, 65536, 65537}
	for p := 1; p < 65534; p++ {
		want = append(want, p)
	}
	slices.Sort(want)
	if got := graph.Loop(w, 65535); !slices.Equal(got, want) {
		t.Errorf("Loop has %d places, want %d", len(got), len(want))
	}
	if !graph.Ahead(w, 65536, 1) || graph.Ahead(w, 1, 65534) || graph.Ahead(w, 65539, 65539) || !graph.Cyclic(w) {
		t.Error("Ahead")
	}
	if l[65535] = nop(); graph.Ahead(l.words(), 65540, 0) || graph.Ahead(l.words(), 0, 65540+1<<32) {
		t.Error("a place that the code has not stands ahead")
	}
}

func TestReachedOfCode(t *testing.T) {
	for _, x := range []struct {
		l    plain
		want []bool
	}{
		{plain{nop()}, []bool{true}},
		{plain{stray()}, []bool{true}},
		{plain{halt(), nop()}, []bool{true, false}},
		{plain{jr(), nop()}, []bool{true, false}},
		{plain{jump(2), nop(), nop()}, []bool{true, false, true}},
		{plain{jal(2), nop(), nop()}, []bool{true, false, true}},
		{plain{jump(3), nop(), nop()}, []bool{true, false, false}},
		{plain{beq(3), halt(), nop(), jump(2), nop()}, []bool{true, true, true, true, false}},
		{plain{jump(0), jump(0)}, []bool{true, false}},
		{plain{nop(), halt(), beq(3), beq(2)}, []bool{true, true, false, false}},
	} {
		if got := graph.Reached(x.l.words()); !slices.Equal(got, x.want) {
			t.Errorf("of %v Reached = %v, want %v", x.l, got, x.want)
		}
		check(t, x.l)
	}
}

// P18.2: Ahead, Backs

func TestAheadOfItselfAndOfPlacesThatAreNotReached(t *testing.T) {
	l := plain{beq(3), nop(), jump(5), nop(), nop(), halt(), nop(), jump(6)}
	w := l.words()
	for p := range l {
		reached := p < 6
		if got := graph.Ahead(w, p, p); got != reached {
			t.Errorf("Ahead(%d, %d) = %t", p, p, got)
		}
		if got := graph.Ahead(w, 0, p); got != reached {
			t.Errorf("Ahead(0, %d) = %t", p, got)
		}
		if graph.Ahead(w, 6, p) || graph.Ahead(w, p, 6) || graph.Ahead(w, 7, p) || graph.Ahead(w, p, 7) {
			t.Errorf("6 or 7, and %d", p)
		}
		// Two ways lead to 5, one past 1 and 2, one past 3 and 4.
		if got := graph.Ahead(w, p, 5); got != (p == 0 || p == 5) {
			t.Errorf("Ahead(%d, 5) = %t", p, got)
		}
	}
	if !graph.Ahead(w, 1, 2) || !graph.Ahead(w, 3, 4) || graph.Ahead(w, 2, 1) || graph.Ahead(w, 1, 3) {
		t.Error("Ahead of two of one way, or of two ways")
	}
	check(t, l)
}

func TestAheadOfPlacesThatTheCodeHasNot(t *testing.T) {
	for _, n := range []int{1, 5, 63, 64, 65, 128} {
		l := plain(nops(n))
		for _, p := range append([]int{n, n + 1, 64*((n+63)/64) - 1}, far...) {
			if p < 0 || p >= n {
				checkNoPlace(t, l, l.words(), p)
			}
		}
	}
}

func TestBacksByExactAnswers(t *testing.T) {
	for _, x := range []struct {
		l    plain
		want []api.Fix
	}{
		{plain{beq(0)}, []api.Fix{{At: 0, To: 0}}},
		{plain{jump(0), jump(1)}, []api.Fix{{At: 0, To: 0}}},
		// 1 is come to by 2 alone, and goes on to 2, and to 0: two backs of one place, one of which leads on.
		{plain{jump(2), beq(0), beq(1), halt()}, []api.Fix{{At: 1, To: 0}, {At: 1, To: 2}}},
		{plain{nop(), nop(), beq(1), beq(0), beq(1), jump(1)}, []api.Fix{{At: 2, To: 1}, {At: 3, To: 0}, {At: 4, To: 1}, {At: 5, To: 1}}},
		// Into the circle of 1 and 2 two ways lead: it has no back.
		{plain{beq(2), nop(), beq(1), halt()}, nil},
		// The circle is not reached.
		{plain{halt(), nop(), jump(1)}, nil},
		// A way into the midst of a loop that is not reached does not count.
		{plain{jump(2), jump(3), nop(), beq(2), halt()}, []api.Fix{{At: 3, To: 2}}},
		{plain{nop(), beq(3), nop(), nop()}, nil},
	} {
		if got := graph.Backs(x.l.words()); !slices.Equal(got, x.want) {
			t.Errorf("of %v Backs = %v, want %v", x.l, got, x.want)
		}
		check(t, x.l)
	}
}

// P18.3: Loop, Cyclic

func TestLoopByExactAnswers(t *testing.T) {
	for _, x := range []struct {
		l    plain
		head int
		want []int
	}{
		{plain{nop(), nop(), halt()}, 1, nil},
		{plain{nop(), beq(1), halt()}, 1, []int{1}},
		{plain{nop(), beq(1), halt()}, 0, nil},
		{plain{nop(), nop(), beq(1), halt()}, 1, []int{1, 2}},
		// Two backs lead to 1, and 4 leads to one of them.
		{plain{nop(), nop(), beq(4), jump(1), nop(), beq(1), halt()}, 1, []int{1, 2, 3, 4, 5}},
		// A loop within one, and both of one head's.
		{plain{nop(), nop(), beq(1), beq(0), halt()}, 0, []int{0, 1, 2, 3}},
		{plain{nop(), nop(), beq(1), beq(0), halt()}, 1, []int{1, 2}},
		{plain{nop(), nop(), beq(1), beq(1), halt()}, 1, []int{1, 2, 3}},
		// A back of head itself, and another one.
		{plain{nop(), beq(1), beq(1), halt()}, 1, []int{1, 2}},
		// 1 leads into the loop, but is not reached.
		{plain{jump(2), jump(3), nop(), nop(), beq(2), halt()}, 2, []int{2, 3, 4}},
		// 4 leads to 1, as 2 does, but there is a way to it past 1.
		{plain{beq(4), nop(), beq(1), nop(), beq(1), halt()}, 1, []int{1, 2}},
		{plain{beq(4), nop(), nop(), nop(), beq(1), halt()}, 1, nil},
		{plain{beq(4), nop(), beq(0), halt(), beq(1), halt()}, 0, []int{0, 1, 2, 4}},
		// A place behind the back, and one that leads out, are not of the loop.
		{plain{nop(), beq(5), nop(), jump(1), nop(), halt()}, 1, []int{1, 2, 3}},
		// The loop's places stand ahead of its head, too.
		{plain{jump(3), beq(3), halt(), beq(1), halt()}, 3, []int{1, 3}},
		{plain{halt(), nop(), jump(1)}, 1, nil},
	} {
		if got := graph.Loop(x.l.words(), x.head); !slices.Equal(got, x.want) {
			t.Errorf("of %v Loop(%d) = %v, want %v", x.l, x.head, got, x.want)
		}
		check(t, x.l)
	}
}

func TestCyclicByExactAnswers(t *testing.T) {
	for _, x := range []struct {
		l    plain
		want bool
	}{
		{plain{nop()}, false},
		{plain{halt()}, false},
		{plain{jump(0)}, true},
		{plain{beq(1), halt()}, false},
		{plain{nop(), halt(), jump(2)}, false},
		{plain{halt(), nop(), jump(1)}, false},
		{plain{jump(3), nop(), jump(1), halt()}, false},
		{plain{jump(3), nop(), jump(1), jump(0)}, true},
		// The circle has two ways in, and no back.
		{plain{beq(2), nop(), beq(1), halt()}, true},
		// A place that is not reached leads to one that is.
		{plain{jump(2), nop(), halt()}, false},
		{plain{jump(2), jump(0), halt()}, false},
		// Ways that part and meet again.
		{plain{beq(3), beq(3), beq(3), beq(5), nop(), halt()}, false},
		{plain{beq(3), nop(), halt(), jump(1)}, false},
		{plain{beq(3), nop(), jump(3), jump(1)}, true},
		// jr and jal go nowhere back by themselves.
		{plain{jal(2), halt(), jr()}, false},
		{plain{nop(), jr()}, false},
	} {
		if got := graph.Cyclic(x.l.words()); got != x.want {
			t.Errorf("of %v Cyclic = %t", x.l, got)
		}
		check(t, x.l)
	}
}

// Code of many places, such as would take for ever, or too deep, if each two were held against one another, or calls stood within calls.

func TestALongRow(t *testing.T) {
	n := 1 << 20
	l := append(plain(nops(n-1)), beq(0))
	w := l.words()
	if got := graph.Backs(w); !slices.Equal(got, []api.Fix{{At: n - 1, To: 0}}) || !graph.Cyclic(w) {
		t.Errorf("Backs = %v", got)
	}
	if got := graph.Loop(w, 0); len(got) != n || got[0] != 0 || got[n-1] != n-1 || !slices.IsSorted(got) {
		t.Errorf("Loop has %d places", len(got))
	}
	if !graph.Ahead(w, 70000, n-1) || graph.Ahead(w, n-1, 70000) || slices.Contains(graph.Reached(w), false) {
		t.Error("Ahead, or Reached")
	}
	l[n-1] = nop()
	if graph.Cyclic(l.words()) || len(graph.Backs(l.words())) != 0 {
		t.Error("a row is a circle")
	}
}

// Each place leads to the one ahead of it, from the last one on.
func TestALongRowTheOtherWayRound(t *testing.T) {
	n := 65536
	l := plain{jump(n - 1), beq(n - 1)}
	for p := 2; p < n; p++ {
		l = append(l, jump(p-1))
	}
	w := l.words()
	if got := graph.Backs(w); !slices.Equal(got, []api.Fix{{At: 1, To: 2}, {At: 1, To: n - 1}}) {
		t.Errorf("Backs = %v", got)
	}
	if got := graph.Loop(w, n-1); len(got) != n-1 || got[0] != 1 || got[n-2] != n-1 {
		t.Errorf("Loop has %d places", len(got))
	}
	if !graph.Cyclic(w) || !graph.Ahead(w, 5000, 300) || graph.Ahead(w, 300, 5000) {
		t.Error("Cyclic, or Ahead")
	}
}

// One in another, k times.
func TestLoopsWithinLoops(t *testing.T) {
	k := 30000
	l := plain(nops(k))
	var want []api.Fix
	for p := k - 1; p >= 0; p-- {
		want = append(want, api.Fix{At: len(l), To: p})
		l = append(l, bne(p))
	}
	w := append(l, halt()).words()
	if got := graph.Backs(w); !slices.Equal(got, want) {
		t.Errorf("there are %d backs", len(got))
	}
	for _, head := range []int{0, 1, 500, k - 2, k - 1} {
		if got := graph.Loop(w, head); len(got) != 2*(k-head) || got[0] != head || got[len(got)-1] != 2*k-1-head {
			t.Errorf("Loop(%d) has %d places", head, len(got))
		}
	}
	if got := graph.Loop(w, k); len(got) != 0 {
		t.Errorf("Loop(%d) = %v", k, got)
	}
}

// From each place a way leads to the last one, and back to the first.
func TestAWayOutOfEachPlace(t *testing.T) {
	n := 60000
	l := plain{}
	for range n {
		l = append(l, beq(n))
	}
	w := append(l, beq(0), halt()).words()
	if got := graph.Backs(w); !slices.Equal(got, []api.Fix{{At: n, To: 0}}) {
		t.Errorf("Backs = %v", got)
	}
	if !graph.Ahead(w, 7, n-1) || graph.Ahead(w, 7, n) || !graph.Ahead(w, 0, n+1) || len(graph.Loop(w, 0)) != n+1 {
		t.Error("Ahead, or Loop")
	}
}

// What holds of all calls.

func TestWordsAreNeitherChangedNorKept(t *testing.T) {
	c := chart.Chance(5)
	for range 200 {
		l := some(&c, 1+c.Below(100))
		w := l.words()
		same := slices.Clone(w)
		backs, loop, reached, next := graph.Backs(w), graph.Loop(w, 0), graph.Reached(w), graph.Next(w, 0)
		graph.Ahead(w, 0, 1)
		graph.Cyclic(w)
		if !slices.Equal(w, same) {
			t.Fatalf("words are now %v, were %v", w, same)
		}
		for _, other := range [][]int{graph.Loop(w, 0), graph.Next(w, 0)} {
			clear(other[:cap(other)])
		}
		clear(graph.Reached(w))
		clear(graph.Backs(w))
		clear(w)
		if x := l.tell(); !slices.Equal(backs, x.backs) || !slices.Equal(loop, x.loops[0]) || !slices.Equal(reached, x.reached) || !slices.Equal(next, x.onwards[0]) {
			t.Fatal("answers changed")
		}
	}
}
