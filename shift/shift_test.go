package shift

import "testing"

const (
	wordMin = -1 << 31
	wordMax = 1<<31 - 1
)

// row is a word's bits, the lowest first.
type row [32]int

// rowOf is x's bits, reckoned by quotients and rests: the program's own shifts must not judge themselves.
func rowOf(x int32) row {
	rest := int64(x)
	if rest < 0 {
		rest += 4294967296
	}
	var r row
	for i := range r {
		r[i] = int(rest % 2)
		rest /= 2
	}
	return r
}

// wordOf is the word whose bits r are.
func wordOf(r row) int32 {
	sum, power := int64(0), int64(1)
	for i, b := range r {
		if i == 31 {
			power = -power
		}
		sum += int64(b) * power
		power *= 2
	}
	return int32(sum)
}

// count is n's lowest five bits, by a rest.
func count(n int32) int {
	return int((int64(n)%32 + 32) % 32)
}

// moved is a row with bit i at place i and by; coming tells what stands where none of these went.
func moved(r row, by int, coming func(place int) int) row {
	var to row
	for place := range to {
		if from := place - by; from >= 0 && from < 32 {
			to[place] = r[from]
		} else {
			to[place] = coming(place)
		}
	}
	return to
}

func noughts(int) int { return 0 }

// words: those at and around each power of 2, runs of ones, and some without a pattern.
func words() []int32 {
	l := []int32{0, 1, 2, 3, 5, -1, -2, -3, -8, wordMin, wordMin + 1, wordMax, wordMax - 1,
		0x55555555, -0x55555556, 0x0f0f0f0f, 0x12345678, -0x12345678, 0x7f80ff01}
	for n := range 31 {
		p := int32(1) << n
		l = append(l, p, p-1, p+1, -p, -p-1, -p+1)
	}
	x := int32(1)
	for range 64 {
		x = x*1103515245 + 12345
		l = append(l, x)
	}
	return l
}

// counts: all from -70 to 70, and far ones, whose lowest five bits differ.
func counts() []int32 {
	l := []int32{wordMin, wordMin + 1, wordMin + 31, wordMin + 32, wordMax, wordMax - 30, wordMax - 31,
		1 << 5, 1<<16 + 7, 1<<30 + 5, -1 << 30, 0x40000001, 255, 256, 257, -255, -256, -257, 1000003, -1000003}
	for n := int32(-70); n <= 70; n++ {
		l = append(l, n)
	}
	return l
}

// shifts are the calls of a word and a number, by their names.
var shifts = []struct {
	name string
	call func(x, n int32) int32
	want func(r row, by int) row
}{
	{"Shl", Shl, func(r row, by int) row { return moved(r, by, noughts) }},
	{"Shr", Shr, func(r row, by int) row { return moved(r, -by, noughts) }},
	{"Sar", Sar, func(r row, by int) row { return moved(r, -by, func(int) int { return r[31] }) }},
	{"Rol", Rol, func(r row, by int) row {
		return moved(r, by, func(place int) int { return r[place-by+32] })
	}},
}

func TestRowsAreTheirWords(t *testing.T) {
	for _, x := range words() {
		if got := wordOf(rowOf(x)); got != x {
			t.Errorf("the word of %d's bits is %d", x, got)
		}
	}
}

// P2.1

type example struct{ x, n, want int32 }

func checkExamples(t *testing.T, name string, call func(x, n int32) int32, l []example) {
	t.Helper()
	for _, c := range l {
		if got := call(c.x, c.n); got != c.want {
			t.Errorf("%s(%d, %d) = %d, want %d", name, c.x, c.n, got, c.want)
		}
	}
}

func TestShlExamples(t *testing.T) {
	checkExamples(t, "Shl", Shl, []example{
		{0, 0, 0}, {0, 31, 0}, {5, 0, 5}, {5, 1, 10}, {5, 4, 80}, {-1, 0, -1}, {-1, 4, -16}, {-1, 31, wordMin},
		{1, 30, 1 << 30}, {1, 31, wordMin}, {2, 31, 0}, {3, 31, wordMin}, {3, 30, -1 << 30},
		{wordMin, 0, wordMin}, {wordMin, 1, 0}, {wordMin + 1, 1, 2}, {wordMax, 1, -2}, {wordMax, 31, wordMin}, {1 << 30, 1, wordMin},
		{5, 32, 5}, {5, 33, 10}, {5, 64, 5}, {5, 65, 10}, {1, 63, wordMin}, {5, wordMax, wordMin}, {6, wordMax, 0},
		{1, -1, wordMin}, {5, -32, 5}, {5, -31, 10}, {1, -2, 1 << 30}, {5, wordMin, 5}, {5, wordMin + 1, 10},
	})
}

func TestShrExamples(t *testing.T) {
	checkExamples(t, "Shr", Shr, []example{
		{0, 0, 0}, {0, 31, 0}, {5, 0, 5}, {5, 1, 2}, {80, 4, 5}, {-8, 0, -8}, {-1, 1, wordMax}, {-1, 28, 15}, {-1, 31, 1},
		{-3, 1, wordMax - 1}, {-8, 2, 1<<30 - 2}, {wordMin, 0, wordMin}, {wordMin, 1, 1 << 30}, {wordMin, 31, 1}, {wordMin + 1, 1, 1 << 30},
		{wordMax, 1, 1<<30 - 1}, {wordMax, 30, 1}, {wordMax, 31, 0}, {1, 1, 0}, {1, 31, 0},
		{-1, 32, -1}, {-1, 33, wordMax}, {-8, 64, -8}, {-1, 60, 15}, {-1, wordMax, 1},
		{-1, -1, 1}, {-1, -4, 15}, {-8, -32, -8}, {-1, -31, wordMax}, {-8, wordMin, -8}, {-1, wordMin + 1, wordMax},
	})
}

func TestSarExamples(t *testing.T) {
	checkExamples(t, "Sar", Sar, []example{
		{0, 0, 0}, {0, 31, 0}, {5, 0, 5}, {7, 1, 3}, {80, 4, 5}, {-3, 1, -2}, {-8, 2, -2}, {-8, 0, -8}, {-7, 1, -4}, {-9, 3, -2},
		{-1, 0, -1}, {-1, 1, -1}, {-1, 28, -1}, {-1, 31, -1}, {1, 1, 0}, {1, 31, 0},
		{wordMin, 0, wordMin}, {wordMin, 1, -1 << 30}, {wordMin, 30, -2}, {wordMin, 31, -1}, {wordMin + 1, 1, -1 << 30}, {wordMin + 1, 31, -1},
		{wordMax, 0, wordMax}, {wordMax, 1, 1<<30 - 1}, {wordMax, 30, 1}, {wordMax, 31, 0},
		{-3, 32, -3}, {-3, 33, -2}, {7, 32, 7}, {7, 33, 3}, {wordMin, 63, -1}, {wordMin, wordMax, -1}, {wordMax, wordMax, 0},
		{wordMin, -1, -1}, {wordMin, -2, -2}, {-3, -32, -3}, {-3, -31, -2}, {-3, wordMin, -3}, {-3, wordMin + 1, -2},
	})
}

func TestRolExamples(t *testing.T) {
	checkExamples(t, "Rol", Rol, []example{
		{0, 0, 0}, {0, 17, 0}, {-1, 0, -1}, {-1, 17, -1}, {5, 0, 5}, {5, 1, 10}, {1, 31, wordMin}, {2, 31, 1}, {3, 31, wordMin + 1},
		{wordMin, 0, wordMin}, {wordMin, 1, 1}, {wordMin, 2, 2}, {wordMin, 31, 1 << 30}, {wordMin + 1, 1, 3},
		{-2, 4, -17}, {-2, 1, -3}, {wordMax, 1, -2}, {wordMax, 31, -1<<30 - 1}, {0x12345678, 8, 0x34567812}, {0x12345678, 16, 0x56781234},
		{5, 32, 5}, {5, 33, 10}, {wordMin, 33, 1}, {2, 63, 1}, {2, wordMax, 1},
		{2, -1, 1}, {1, -1, wordMin}, {4, -2, 1}, {5, -32, 5}, {5, -31, 10}, {5, wordMin, 5}, {wordMin, wordMin + 1, 1},
	})
}

func TestShiftsGoBitByBit(t *testing.T) {
	for _, s := range shifts {
		for _, x := range words() {
			for _, n := range counts() {
				if got, want := s.call(x, n), wordOf(s.want(rowOf(x), count(n))); got != want {
					t.Fatalf("%s(%d, %d) = %d, want %d", s.name, x, n, got, want)
				}
			}
		}
	}
}

func TestSarIsTheQuotientRoundedDown(t *testing.T) {
	for _, x := range words() {
		power := int64(1)
		for n := range int32(32) {
			want := int64(x) / power
			if int64(x)%power < 0 {
				want--
			}
			if got := Sar(x, n); int64(got) != want {
				t.Errorf("Sar(%d, %d) = %d, want %d", x, n, got, want)
			}
			power *= 2
		}
	}
}

func TestShiftsCountByTheLowestFiveBits(t *testing.T) {
	for _, s := range shifts {
		for _, x := range []int32{1, -2, 0x12345678, -0x12345678, wordMin, wordMax} {
			for n := range int32(32) {
				want := s.call(x, n)
				for _, more := range []int32{n + 32, n + 64, n + 1<<30, n - 32, n - 64, n - 1<<30, n + wordMin, n | -32, n | wordMax&^31} {
					if got := s.call(x, more); got != want {
						t.Errorf("%s(%d, %d) = %d, by %d it is %d", s.name, x, more, got, n, want)
					}
				}
			}
		}
	}
}

// P2.2

func TestBitsExamples(t *testing.T) {
	for _, c := range []struct{ x, clz, ones, turn int32 }{
		{0, 32, 0, 0}, {1, 31, 1, wordMin}, {2, 30, 1, 1 << 30}, {3, 30, 2, -1 << 30}, {255, 24, 8, -1 << 24},
		{1 << 16, 15, 1, 1 << 15}, {1 << 30, 1, 1, 2}, {wordMax, 1, 31, -2}, {1<<31 - 2, 1, 30, 1<<31 - 2},
		{wordMin, 0, 1, 1}, {wordMin + 1, 0, 2, wordMin + 1}, {-1, 0, 32, -1}, {-2, 0, 31, wordMax}, {-256, 0, 24, 1<<24 - 1},
		{0x0f0f0f0f, 4, 16, -0x0f0f0f10}, {0x12345678, 3, 13, 0x1e6a2c48},
	} {
		if got := Clz(c.x); got != c.clz {
			t.Errorf("Clz(%d) = %d, want %d", c.x, got, c.clz)
		}
		if got := Ones(c.x); got != c.ones {
			t.Errorf("Ones(%d) = %d, want %d", c.x, got, c.ones)
		}
		if got := Turn(c.x); got != c.turn {
			t.Errorf("Turn(%d) = %d, want %d", c.x, got, c.turn)
		}
	}
}

func TestBitsAreCountedAndTurned(t *testing.T) {
	for _, x := range words() {
		clz, ones := int32(0), int32(0)
		var turned row
		for i, b := range rowOf(x) {
			// A 1 has no nought below it that stands above the highest 1.
			clz++
			if b == 1 {
				clz = 0
				ones++
			}
			turned[31-i] = b
		}
		if got := Clz(x); got != clz {
			t.Errorf("Clz(%d) = %d, want %d", x, got, clz)
		}
		if got := Ones(x); got != ones {
			t.Errorf("Ones(%d) = %d, want %d", x, got, ones)
		}
		if got, want := Turn(x), wordOf(turned); got != want {
			t.Errorf("Turn(%d) = %d, want %d", x, got, want)
		}
	}
}

func TestEachBitIsTold(t *testing.T) {
	for _, x := range words() {
		tell := bitsOf(x)
		for i, b := range rowOf(x) {
			if got := tell(uint32(i)); got != uint32(b) {
				t.Errorf("bit %d of %d is told as %d, want %d", i, x, got, b)
			}
		}
	}
}

// P2.3

func TestUpAndDownTheLowestBitsStay(t *testing.T) {
	for _, x := range words() {
		for _, n := range counts() {
			r := rowOf(x)
			for i := 32 - count(n); i < 32; i++ {
				r[i] = 0
			}
			if got, want := Shr(Shl(x, n), n), wordOf(r); got != want {
				t.Fatalf("%d, up and down by %d: %d, want %d", x, n, got, want)
			}
			for i := 32 - count(n); i < 32; i++ {
				r[i] = r[31-count(n)]
			}
			if got, want := Sar(Shl(x, n), n), wordOf(r); got != want {
				t.Fatalf("%d, up and down by %d, with a sign: %d, want %d", x, n, got, want)
			}
		}
	}
}

func TestRoundByBothAWordIsAsItWas(t *testing.T) {
	for _, x := range words() {
		for _, n := range counts() {
			// 32 less n runs over where n is the least word: modulo 2^32 its lowest five bits are right all the same.
			if got := Rol(Rol(x, n), 32-n); got != x {
				t.Fatalf("%d, round by %d and by %d: %d", x, n, 32-n, got)
			}
		}
	}
}

func TestTurnedTwiceAWordIsAsItWas(t *testing.T) {
	for _, x := range words() {
		if got := Turn(Turn(x)); got != x {
			t.Errorf("%d, turned twice: %d", x, got)
		}
		if Ones(Turn(x)) != Ones(x) {
			t.Errorf("%d, turned, has %d ones, not %d", x, Ones(Turn(x)), Ones(x))
		}
	}
}
