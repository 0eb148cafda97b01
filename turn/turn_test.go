package turn_test

import (
	"math"
	"slices"
	"testing"

	"astrolabe/turn"
)

const (
	wordMin = -1 << 31
	wordMax = 1<<31 - 1
	words   = 1 << 32 // how many there are
	pi      = 1686629713
	right   = 843314857
	sum     = 935919873 // of the table's angles
	near    = 2048
	length  = 652032874 // what Wave begins with
	one     = 1 << 30
)

// table are the chapter's angles.
var table = []int32{
	421657428, 248918915, 131521918, 66762579, 33510843, 16771758, 8387925, 4194219, 2097141, 1048575,
	524288, 262144, 131072, 65536, 32768, 16384, 8192, 4096, 2048, 1024, 512, 256, 128, 64, 32, 16, 8, 4,
}

// some: words without a pattern, of all lengths.
func some(n int) []int32 {
	var l []int32
	x := int32(1)
	for i := range n {
		x = x*1103515245 + 12345
		l = append(l, x>>(i%31))
	}
	return l
}

// edges: words at which something turns, and those beside them.
func edges() []int32 {
	var l []int32
	for _, x := range []int32{0, right, pi, 421657428, wordMax - 2, 0x55555555, 1 << 28, 1 << 29, one, 1 << 16, 3 << 15, 5, 100, length} {
		for d := int32(-2); d <= 2; d++ {
			l = append(l, x+d, -x-d)
		}
	}
	return append(l, wordMin)
}

// place is a y and an x.
type place struct{ y, x int32 }

// places: the edges crosswise, and places without a pattern.
func places() []place {
	var l []place
	for _, y := range edges() {
		for _, x := range edges() {
			l = append(l, place{y, x})
		}
	}
	s := some(4000)
	for i, y := range s[1:] {
		l = append(l, place{y, s[i]}, place{y, s[(i*7+3)%len(s)]})
	}
	return l
}

// eighths are places with 0 from l, which is y, to g, which is x and above 0.
func eighths() []place {
	var l []place
	for g := int32(1); g <= 150; g++ {
		for y := range g + 1 {
			l = append(l, place{y, g})
		}
	}
	for _, p := range places() {
		y, x := amount(int64(p.y)), amount(int64(p.x))
		if g := max(y, x); g > 0 {
			l = append(l, place{int32(min(y, x)), int32(g)})
		}
	}
	return l
}

// angles: those from -Pi to Pi, the edges and the angles of the table, those beside them, and some between.
func angles() []int32 {
	l := append(edges(), some(3000)...)
	for _, a := range table {
		l = append(l, a, -a, a-1, a+1, right-a, right+a, pi-a)
	}
	for a := int64(-pi); a <= pi; a += 786433 {
		l = append(l, int32(a))
	}
	return slices.DeleteFunc(l, func(a int32) bool { return a < -pi || a > pi })
}

// The reckoning of the tests is that of whole numbers of 64 bits, by sums, products, quotients and rests: no layer judges itself.

// signed is the word that is x modulo 2^32.
func signed(x int64) int64 {
	r := (x%words + words) % words
	if r > wordMax {
		r -= words
	}
	return r
}

// amount is that of a word, cut.
func amount(x int64) int64 {
	if x < 0 {
		x = -x
	}
	return min(x, wordMax)
}

// down is x by 2^n, rounded down.
func down(x int64, n int) int64 {
	m := int64(1) << n
	q := x / m
	if q*m > x {
		q--
	}
	return q
}

// how is a way to do the turns. Of x, y and the angle the numbers are 0, 1 and 2.
type how struct {
	turns   int   // how many
	without int   // which turn is left out
	early   int   // the number that is new ahead of late, which then hangs on the new one
	late    int   // -1: all three are new at once
	nought  int64 // 1, if 0 counts as below 0
}

// chapter is the way of the chapter.
var chapter = how{turns: 28, without: -1, late: -1}

// step are x, y and the angle behind turn i: way is 1 of Vector, -1 of Wave; led is the number that is brought towards 0.
func step(at [3]int64, led int, way int64, i int, h how) (new [3]int64) {
	for n := range new {
		seen := at
		if n == h.late {
			seen[h.early] = part(at, h.early, led, way, i, h)
		}
		new[n] = part(seen, n, led, way, i, h)
	}
	return new
}

// part is number n behind turn i.
func part(at [3]int64, n int, led int, way int64, i int, h how) int64 {
	if at[led] < h.nought {
		way = -way
	}
	switch n {
	case 0:
		return signed(at[0] + way*down(at[1], i))
	case 1:
		return signed(at[1] - way*down(at[0], i))
	}
	if i == len(table) {
		// One more turn than the table has angles: as the table would go on.
		return signed(at[2] + way*2)
	}
	return signed(at[2] + way*int64(table[i]))
}

// turned are x, y and the angle behind all turns.
func turned(at [3]int64, led int, way int64, h how) [3]int64 {
	for i := range h.turns {
		if i != h.without {
			at = step(at, led, way, i, h)
		}
	}
	return at
}

// vector is what the chapter says of it, but for how the turns are done.
func vector(y, x int32, h how) [3]int64 {
	return turned([3]int64{int64(x), int64(y), 0}, 1, 1, h)
}

// level are two amounts, brought up until the greater one is from a quarter to a half.
func level(l, g int64) (int64, int64) {
	for g > 0 && g < one {
		l, g = 2*l, 2*g
	}
	return l / 4, g / 4
}

// angle is what the chapter says of it.
func angle(y, x int32) int64 {
	high, wide := amount(int64(y)), amount(int64(x))
	l, g := level(min(high, wide), max(high, wide))
	a := vector(int32(l), int32(g), chapter)[2]
	if wide < high {
		a = signed(right - a)
	}
	if x < 0 {
		a = signed(pi - a)
	}
	if y < 0 {
		a = signed(-a)
	}
	return a
}

// wave is what the chapter says of it, but for how the turns are done: y, x, and what b comes to be.
func wave(a int32, h how) [3]int64 {
	b, way := int64(a), int64(1)
	if amount(b) > right {
		way = -1
		if a < 0 {
			b = signed(-pi - b)
		} else {
			b = signed(pi - b)
		}
	}
	at := turned([3]int64{length, 0, b}, 2, -1, h)
	return [3]int64{at[1], signed(way * at[0]), at[2]}
}

// P9.3

func TestTable(t *testing.T) {
	got := turn.Table()
	if !slices.Equal(got, table) {
		t.Fatalf("Table() = %d, want %d", got, table)
	}
	for i, a := range got {
		if want := math.Round(math.Atan(math.Ldexp(1, -i)) * (1 << 29)); float64(a) != want {
			t.Errorf("angle %d is %d, want %v", i, a, want)
		}
	}
}

func TestTableIsNewEachTime(t *testing.T) {
	first := turn.Table()
	clear(first)
	_ = append(first[:3], 1, 2, 3)
	if got := turn.Table(); !slices.Equal(got, table) {
		t.Errorf("Table() behind a change to the one ahead = %d", got)
	}
	if x, y, a := turn.Vector(0, 0); x != 0 || y != 0 || a != sum {
		t.Errorf("Vector(0, 0) behind a change to the table = %d, %d, %d", x, y, a)
	}
	second := turn.Table()
	if clear(turn.Table()); !slices.Equal(second, table) {
		t.Errorf("a table is changed with another one: %d", second)
	}
}

// P9.1

func TestVectorExamples(t *testing.T) {
	for _, c := range [][5]int32{
		// y, x; x, y, a behind the turns
		{0, 0, 0, 0, sum}, {1, 0, 1, 1, sum}, {-1, 0, 28, -1, -sum}, {0, 1, 28, -1, -92605017}, {1, 1, 28, -1, 405232813}, {-1, 1, 28, -1, -438082043},
		{0, -1, -1, 28, sum}, {1, -1, 1, 2, sum}, {-1, -1, 27, -2, -sum}, {2, 1, 3, 0, sum}, {-2, 1, 29, -1, -672876037}, {3, 5, 33, -1, 303963977}, {-3, 5, 34, -1, -304556885},
		// y at 0, and on either side
		{0, 1 << 28, 442048849, 0, -3}, {1, 1 << 28, 442048850, 1, -3}, {-1, 1 << 28, 442048843, -2, 3}, {2, 1 << 28, 442048849, -3, 5}, {-2, 1 << 28, 442048847, 1, -5},
		{1 << 28, 1 << 28, 625151467, -3, 421657435}, {-1 << 28, 1 << 28, 625151467, -3, -421657421}, {1 << 28, 0, 442048845, 0, 843314859}, {1 << 27, 1 << 28, 494225634, -3, 248918917}, {-1 << 27, 1 << 28, 494225634, -3, -248918909},
		{123456789, 456789012, 779211364, 3, 141714767}, {-123456789, 456789012, 779211353, -3, -141714767}, {0, 1<<29 - 1, 884097688, -1, -3}, {1<<29 - 1, 1<<29 - 1, 1250302934, 8, 421657427}, {0, length, 1073741832, 3, -3},
		// places on the other side, to which no turns come
		{100, -500000000, 141321996, 811161477, sum}, {-100, -500000000, 141322022, -811161477, -sum}, {100000000, -300000000, 247025394, 458432541, sum}, {-100000000, -300000000, 247025418, -458432541, -sum},
		// sums leave the word
		{wordMax, wordMax, -2, 27, sum}, {wordMin, wordMin, 0, 0, 92605017}, {wordMax, wordMin, 26, -2, -92605017}, {wordMin, wordMax, 26, -2, -sum},
		{wordMax, 0, -453993349, 1514959395, sum}, {wordMin, 0, -453993347, 1514959389, -405232813}, {0, wordMax, -453993323, -1514959391, -92605017}, {0, wordMin, -453993347, 1514959389, 438082043},
		{one, one, -1438469709, 2045442408, sum}, {-one, -one, 2045442408, -1438469709, -sum}, {-one, one, -1438469709, 2045442408, 92605017},
		{1500000000, 2000000000, -56258931, -1092112942, -92605017}, {-1500000000, 2000000000, -56258955, 1092112942, 92605017},
		{wordMax, 1, -453993322, -1514959392, 405232813}, {wordMin, -1, -453993349, 1514959395, 92605017}, {one, wordMax, 303486364, -1741956060, -92605017}, {-1, wordMin, -453993321, -1514959390, -438082043},
	} {
		if x, y, a := turn.Vector(c[0], c[1]); x != c[2] || y != c[3] || a != c[4] {
			t.Errorf("Vector(%d, %d) = %d, %d, %d, want %d", c[0], c[1], x, y, a, c[2:])
		}
	}
}

func TestVectorIsWhatIsReckoned(t *testing.T) {
	for _, p := range places() {
		want := vector(p.y, p.x, chapter)
		if x, y, a := turn.Vector(p.y, p.x); [3]int64{int64(x), int64(y), int64(a)} != want {
			t.Fatalf("Vector(%d, %d) = %d, %d, %d, want %d", p.y, p.x, x, y, a, want)
		}
	}
}

// others are ways that are not the chapter's: one turn less, or one more; each turn left out; 0 as if it were below 0; one of the three new ahead of another one, which hangs on it.
func others(hangs ...[2]int) []how {
	less, more, nought := chapter, chapter, chapter
	less.turns--
	more.turns++
	nought.nought = 1
	l := []how{less, more, nought}
	for i := range chapter.turns {
		without := chapter
		without.without = i
		l = append(l, without)
	}
	for _, n := range hangs {
		early := chapter
		early.early, early.late = n[0], n[1]
		l = append(l, early)
	}
	return l
}

// told marks the numbers that are unlike.
func told(marks *[3]bool, a, b [3]int64) bool {
	for n := range a {
		marks[n] = marks[n] || a[n] != b[n]
	}
	return a != b
}

// Of each other way there are places at which it would make another x, another y, another a; Vector answers the chapter's.
func TestVectorTurnsAsTheChapterSays(t *testing.T) {
	all := places()
	for _, h := range others([2]int{0, 1}, [2]int{1, 0}, [2]int{1, 2}) {
		// Nothing hangs on a.
		marks := [3]bool{h.late == 2, h.late == 2, false}
		for _, p := range all {
			want := vector(p.y, p.x, chapter)
			if !told(&marks, vector(p.y, p.x, h), want) {
				continue
			}
			if x, y, a := turn.Vector(p.y, p.x); [3]int64{int64(x), int64(y), int64(a)} != want {
				t.Fatalf("Vector(%d, %d) = %d, %d, %d, want %d", p.y, p.x, x, y, a, want)
			}
			if marks == [3]bool{true, true, true} {
				break
			}
		}
		if marks != [3]bool{true, true, true} {
			t.Errorf("%+v is told by no place, or not by each number: %v", h, marks)
		}
	}
}

// P9.2

func TestAngleExamples(t *testing.T) {
	for _, c := range [][3]int32{
		// y, x, the angle: on the axes, and at 0 and 0
		{0, 0, sum}, {0, 1, -3}, {0, 5, -3}, {0, wordMax, -3}, {1, 0, 843314860}, {9, 0, 843314860}, {wordMax, 0, 843314860},
		{0, -1, 1686629716}, {0, -5, 1686629716}, {0, -wordMax, 1686629716}, {0, wordMin, 1686629716}, {-1, 0, -843314860}, {-9, 0, -843314860}, {-wordMax, 0, -843314860}, {wordMin, 0, -843314860},
		// at amounts that are alike
		{1, 1, 421657435}, {5, 5, 421657435}, {wordMax, wordMax, 421657427}, {1, -1, 1264972278}, {-1, 1, -421657435}, {-1, -1, -1264972278}, {-7, -7, -1264972278},
		{wordMin, wordMin, -1264972286}, {wordMin, wordMax, -421657427}, {wordMax, wordMin, 1264972286}, {-wordMax, wordMax, -421657427},
		// in all eight parts
		{1, 2, 248918917}, {2, 1, 594395940}, {2, -1, 1092233773}, {1, -2, 1437710796}, {-1, -2, -1437710796}, {-2, -1, -1092233773}, {-2, 1, -594395940}, {-1, 2, -248918917},
		{3, 4, 345477029}, {4, 3, 497837828}, {1000, 1001, 421389125}, {1001, 1000, 421925732}, {100, 7, 805795094}, {7, 100, 37519763}, {-100, -7, -880834619}, {123456, -7890123, 1678230032}, {-123456789, -4321, -843333645},
		// the smallest and the greatest amounts, also cut ones
		{1, wordMax, -3}, {wordMax, 1, 843314860}, {-1, wordMax, 3}, {1, wordMin, 1686629716}, {-1, wordMin, -1686629716}, {wordMin, 1, -843314860}, {wordMin, -1, -843314853},
		{wordMax - 1, wordMax, 421657427}, {wordMax, wordMax - 1, 421657430}, {wordMax - 1, wordMin, 1264972286}, {wordMin, wordMax - 1, -421657430}, {wordMin, wordMin + 1, -1264972286}, {wordMin + 1, wordMin, -1264972286},
		{one, 1 << 28, 711792940}, {1 << 28, one, 131521917}, {one - 1, one, 421657421}, {one, one + 1, 421657435},
	} {
		if a := turn.Angle(c[0], c[1]); a != c[2] {
			t.Errorf("Angle(%d, %d) = %d, want %d", c[0], c[1], a, c[2])
		}
	}
}

func TestAngleIsWhatIsReckoned(t *testing.T) {
	for _, p := range places() {
		want := angle(p.y, p.x)
		if a := turn.Angle(p.y, p.x); int64(a) != want {
			t.Fatalf("Angle(%d, %d) = %d, want %d", p.y, p.x, a, want)
		}
	}
}

// Amounts near to each other, of each length.
func TestAngleOfAllLengths(t *testing.T) {
	for n := range 31 {
		for d := int32(-3); d <= 3; d++ {
			for e := int32(-3); e <= 3; e++ {
				y, x := int32(1)<<n+d, int32(1)<<n+e
				for _, p := range []place{{y, x}, {-y, x}, {y, -x}, {-y, -x}, {y, e}, {e, x}, {-y, e}, {e, -x}} {
					want := angle(p.y, p.x)
					if a := turn.Angle(p.y, p.x); int64(a) != want {
						t.Fatalf("Angle(%d, %d) = %d, want %d", p.y, p.x, a, want)
					}
				}
			}
		}
	}
}

// P9.6

func TestWaveExamples(t *testing.T) {
	for _, c := range [][3]int32{
		// a, y, x: b at 0, and on either side
		{0, -4, 1073741828}, {1, 12, 1073741828}, {-1, 3, 1073741832}, {2, 12, 1073741828}, {-2, -13, 1073741830}, {4, 12, 1073741828}, {-4, -13, 1073741830},
		{421657427, 759250130, 759250119}, {421657428, 759250119, 759250130}, {421657429, 759250119, 759250130}, {-421657428, -759250130, 759250123},
		{281104952, 536870917, 929887698}, {-281104952, -536870917, 929887700}, {562209904, 929887698, 536870917}, {1 << 29, 903522591, 580145181}, {-1 << 29, -903522592, 580145181}, {100000000, 198845524, 1055169163}, {-100000000, -198845524, 1055169161},
		// at Right, and on either side
		{right - 2, 1073741828, -4}, {right - 1, 1073741828, -4}, {right, 1073741828, -4}, {right + 1, 1073741828, 4}, {right + 2, 1073741828, -12},
		{-right + 1, -1073741828, -7}, {-right, -1073741828, -7}, {-right - 1, -1073741828, -11}, {-right - 2, -1073741828, -11},
		{1264972285, 759250119, -759250130}, {-1264972285, -759250130, -759250123}, {one, 976350679, -446834262}, {-one, -976350679, -446834261},
		// at Pi, and on either side
		{pi - 2, 12, -1073741828}, {pi - 1, 12, -1073741828}, {pi, -4, -1073741828}, {pi + 1, 3, -1073741832}, {pi + 2, -13, -1073741830},
		{-pi + 2, -13, -1073741830}, {-pi + 1, 3, -1073741832}, {-pi, -4, -1073741828}, {-pi - 1, 12, -1073741828}, {-pi - 2, 12, -1073741828},
		// beyond it
		{2000000000, -591753215, -895962970}, {-2000000000, 591753215, -895962964}, {wordMax - 1, -812610491, -701844501}, {wordMax, -812610491, -701844501}, {wordMin + 2, 812610491, -701844495}, {wordMin + 1, 812610491, -701844495}, {wordMin, 812610491, -701844495},
	} {
		if y, x := turn.Wave(c[0]); y != c[1] || x != c[2] {
			t.Errorf("Wave(%d) = %d, %d, want %d", c[0], y, x, c[1:])
		}
	}
}

// waves: angles, and words beyond Pi.
func waves() []int32 { return append(angles(), append(edges(), some(3000)...)...) }

func TestWaveIsWhatIsReckoned(t *testing.T) {
	for _, a := range waves() {
		want := wave(a, chapter)
		if y, x := turn.Wave(a); int64(y) != want[0] || int64(x) != want[1] {
			t.Fatalf("Wave(%d) = %d, %d, want %d", a, y, x, want[:2])
		}
	}
}

// Of each other way there are angles at which it would make another y, and another x; Wave answers the chapter's.
func TestWaveTurnsAsTheChapterSays(t *testing.T) {
	all := waves()
	for _, h := range others([2]int{0, 1}, [2]int{1, 0}, [2]int{2, 0}, [2]int{2, 1}) {
		var marks [3]bool
		for _, a := range all {
			want := wave(a, chapter)
			if !told(&marks, wave(a, h), want) {
				continue
			}
			if y, x := turn.Wave(a); int64(y) != want[0] || int64(x) != want[1] {
				t.Fatalf("Wave(%d) = %d, %d, want %d", a, y, x, want[:2])
			}
			if marks[0] && marks[1] {
				break
			}
		}
		if !marks[0] || !marks[1] {
			t.Errorf("%+v is told by no angle, or not by both numbers: %v", h, marks)
		}
	}
}

// P9.4

func TestAngleIsTrue(t *testing.T) {
	for _, p := range eighths() {
		a := turn.Angle(p.y, p.x)
		sin, cos := math.Sincos(math.Ldexp(float64(a), -29))
		l, g := float64(p.y), float64(p.x)
		if math.Abs(g*sin-l*cos) >= math.Ldexp(l+g, -18) || cos <= 0 {
			t.Fatalf("Angle(%d, %d) = %d: %v is too far from %v", p.y, p.x, a, g*sin, l*cos)
		}
	}
}

// P9.7

// apart is how far two angles are from one another, but for whole turns.
func apart(a, b int64) int64 {
	d := ((a-b)%(2*pi) + 2*pi) % (2 * pi)
	return min(d, 2*pi-d)
}

func TestWaveIsOnTheCircle(t *testing.T) {
	for _, a := range angles() {
		y, x := turn.Wave(a)
		squares := int64(y)*int64(y) + int64(x)*int64(x)
		if d := squares - 1<<60; d <= -1<<40 || d >= 1<<40 {
			t.Fatalf("Wave(%d) = %d, %d: its squares are %d from 2^60", a, y, x, d)
		}
		if back := turn.Angle(y, x); apart(int64(back), int64(a)) >= 1<<13 {
			t.Fatalf("Wave(%d) = %d, %d, whose angle is %d", a, y, x, back)
		}
	}
}

// P9.5

func TestAngleIsTurnedRoundWithY(t *testing.T) {
	for _, p := range places() {
		if p.y == 0 || p.y == wordMin {
			continue
		}
		if a, b := turn.Angle(p.y, p.x), turn.Angle(-p.y, p.x); a != -b {
			t.Fatalf("Angle(%d, %d) = %d, but %d with y turned round", p.y, p.x, a, b)
		}
	}
	// The amount of -2^31 is cut: it stands on the other side of 2^31 - 1.
	for _, x := range edges() {
		if a, b := turn.Angle(wordMin, x), turn.Angle(wordMax, x); a != -b {
			t.Fatalf("Angle(-2^31, %d) = %d, but of 2^31 - 1 it is %d", x, a, b)
		}
	}
}

func TestAngleIsLeftOfPiWithX(t *testing.T) {
	for _, p := range places() {
		if p.x == 0 || p.x == wordMin {
			continue
		}
		a, b := int64(turn.Angle(p.y, p.x)), int64(turn.Angle(p.y, -p.x))
		// Below 0 it is what is left of Pi but for a whole turn.
		if p.y >= 0 && a+b != pi || p.y < 0 && a+b != -pi {
			t.Fatalf("Angle(%d, %d) = %d, but %d with x turned round", p.y, p.x, a, b)
		}
	}
	for _, y := range edges() {
		if a, b := turn.Angle(y, wordMin), turn.Angle(y, -wordMax); a != b {
			t.Fatalf("Angle(%d, -2^31) = %d, but of -2^31 + 1 it is %d", y, a, b)
		}
	}
}

func TestAngleIsLeftOfRightWithBothChangedRound(t *testing.T) {
	for _, p := range eighths() {
		if p.y == p.x {
			continue
		}
		a, b := int64(turn.Angle(p.y, p.x)), int64(turn.Angle(p.x, p.y))
		if a+b != right {
			t.Fatalf("Angle(%d, %d) = %d, but %d changed round", p.y, p.x, a, b)
		}
	}
	// Below 0 Pi counts in, which is one less than twice Right, and whole turns.
	for _, p := range places() {
		if amount(int64(p.y)) == amount(int64(p.x)) {
			continue
		}
		a, b := int64(turn.Angle(p.y, p.x)), int64(turn.Angle(p.x, p.y))
		if apart(a+b, right) > 1 {
			t.Fatalf("Angle(%d, %d) = %d, but %d changed round", p.y, p.x, a, b)
		}
	}
}

// The chapter's examples.

func TestExamples(t *testing.T) {
	for _, c := range [][3]int32{{1, 1, 421657428}, {0, -1, pi}} {
		if a := turn.Angle(c[0], c[1]); a < c[2]-near || a > c[2]+near {
			t.Errorf("Angle(%d, %d) = %d, want it near to %d", c[0], c[1], a, c[2])
		}
	}
}
