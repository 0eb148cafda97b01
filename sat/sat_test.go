package sat

import "testing"

const (
	wordMin   = -1 << 31
	wordMax   = 1<<31 - 1
	numberMin = -1 << 63
	numberMax = 1<<63 - 1
)

// words: the edges, those at and around each power of 2, and some without a pattern.
func words() []int32 {
	l := []int32{0, 1, 2, 3, 5, -1, -2, -3, -8, wordMin, wordMin + 1, wordMin + 2, wordMax, wordMax - 1, wordMax - 2,
		0x55555555, -0x55555556, 0x12345678, -0x12345678}
	for n := range 31 {
		p := int32(1) << n
		l = append(l, p, p-1, p+1, -p, -p-1, -p+1)
	}
	x := int32(1)
	for range 64 {
		x = x*1103515245 + 12345
		l = append(l, x)
	}
	return l
}

// numbers: the words, those next to them where they end, and far beyond them.
func numbers() []int64 {
	l := []int64{0, wordMin - 2, wordMin - 1, wordMin, wordMin + 1, wordMax - 1, wordMax, wordMax + 1, wordMax + 2,
		numberMin, numberMin + 1, numberMax, numberMax - 1,
		// Their lowest 32 bits alone are words like any others.
		1<<32 + 5, -1<<32 + 5, 1<<32 - 1, -1<<32 - 1, 3<<32 + wordMin, -3<<32 + wordMax}
	for _, w := range words() {
		l = append(l, int64(w), int64(w)*3, int64(w)<<32, int64(w)*int64(w))
	}
	for n := range 63 {
		p := int64(1) << n
		l = append(l, p, p-1, p+1, -p, -p-1, -p+1)
	}
	return l
}

// cut is what the chapter's words say of it.
func cut(x int64) int32 {
	if x < -2147483648 {
		return -2147483648
	}
	if x > 2147483647 {
		return 2147483647
	}
	return int32(x)
}

// apart is how far one number is from another; with 64 bits counted from 0 on it always has room.
func apart(x, y int64) uint64 {
	if x < y {
		x, y = y, x
	}
	return uint64(x) - uint64(y)
}

// P4.1

func TestSatAndHitsExamples(t *testing.T) {
	for _, c := range []struct {
		x    int64
		sat  int32
		hits bool
	}{
		{0, 0, false}, {1, 1, false}, {-1, -1, false}, {7, 7, false}, {-5, -5, false}, {1 << 30, 1 << 30, false}, {-1 << 30, -1 << 30, false},
		{wordMax - 1, wordMax - 1, false}, {wordMax, wordMax, false}, {wordMax + 1, wordMax, true}, {wordMax + 2, wordMax, true},
		{wordMin + 1, wordMin + 1, false}, {wordMin, wordMin, false}, {wordMin - 1, wordMin, true}, {wordMin - 2, wordMin, true},
		{1<<32 - 1, wordMax, true}, {1 << 32, wordMax, true}, {1<<32 + 1, wordMax, true}, {-1<<32 + 1, wordMin, true}, {-1 << 32, wordMin, true}, {-1<<32 - 1, wordMin, true},
		{5<<32 + 3, wordMax, true}, {-5<<32 + 3, wordMin, true}, {1 << 62, wordMax, true}, {-1 << 62, wordMin, true},
		{numberMax - 1, wordMax, true}, {numberMax, wordMax, true}, {numberMin + 1, wordMin, true}, {numberMin, wordMin, true},
	} {
		if got := Sat(c.x); got != c.sat {
			t.Errorf("Sat(%d) = %d, want %d", c.x, got, c.sat)
		}
		if got := Hits(c.x); got != c.hits {
			t.Errorf("Hits(%d) = %t, want %t", c.x, got, c.hits)
		}
	}
}

func TestSatIsCut(t *testing.T) {
	for _, x := range numbers() {
		if got, want := Sat(x), cut(x); got != want {
			t.Errorf("Sat(%d) = %d, want %d", x, got, want)
		}
		if got, want := Hits(x), x < wordMin || x > wordMax; got != want {
			t.Errorf("Hits(%d) = %t, want %t", x, got, want)
		}
	}
}

func TestHitsTellsOfAnotherNumber(t *testing.T) {
	for _, x := range numbers() {
		if got, want := Hits(x), int64(Sat(x)) != x; got != want {
			t.Errorf("Hits(%d) = %t, though Sat of it is %d", x, got, Sat(x))
		}
	}
}

// P4.2

func TestAddAndSubExamples(t *testing.T) {
	for _, c := range []struct{ a, b, sum, left int32 }{
		{0, 0, 0, 0}, {1, 2, 3, -1}, {2, 1, 3, 1}, {-3, 5, 2, -8}, {5, -3, 2, 8}, {-4, -6, -10, 2}, {7, 0, 7, 7}, {0, 7, 7, -7}, {0, -7, -7, 7},
		{wordMax, 1, wordMax, wordMax - 1}, {1, wordMax, wordMax, wordMin + 2}, {wordMax, -1, wordMax - 1, wordMax}, {-1, wordMax, wordMax - 1, wordMin},
		{wordMax, 0, wordMax, wordMax}, {0, wordMax, wordMax, wordMin + 1}, {wordMax, wordMax, wordMax, 0}, {wordMax - 1, 1, wordMax, wordMax - 2}, {wordMax - 1, 2, wordMax, wordMax - 3},
		{-2, wordMax, wordMax - 2, wordMin}, {wordMax - 1, -2, wordMax - 3, wordMax}, {wordMax - 1, -1, wordMax - 2, wordMax},
		{wordMin, -1, wordMin, wordMin + 1}, {-1, wordMin, wordMin, wordMax}, {wordMin, 1, wordMin + 1, wordMin}, {1, wordMin, wordMin + 1, wordMax},
		{wordMin, 0, wordMin, wordMin}, {0, wordMin, wordMin, wordMax}, {-2, wordMin, wordMin, wordMax - 1}, {wordMin, wordMin, wordMin, 0},
		{wordMin + 1, -1, wordMin, wordMin + 2}, {wordMin + 1, 1, wordMin + 2, wordMin}, {wordMin + 1, 2, wordMin + 3, wordMin},
		{wordMin, wordMax, -1, wordMin}, {wordMax, wordMin, -1, wordMax}, {1 << 30, 1 << 30, wordMax, 0}, {-1 << 30, -1 << 30, wordMin, 0}, {-1 << 30, 1 << 30, 0, wordMin}, {1 << 30, -1 << 30, 0, wordMax},
		{wordMin, 2, wordMin + 2, wordMin}, {2, wordMin, wordMin + 2, wordMax},
	} {
		if got := Add(c.a, c.b); got != c.sum {
			t.Errorf("Add(%d, %d) = %d, want %d", c.a, c.b, got, c.sum)
		}
		if got := Sub(c.a, c.b); got != c.left {
			t.Errorf("Sub(%d, %d) = %d, want %d", c.a, c.b, got, c.left)
		}
	}
}

func TestAddAndSubOfAllPairs(t *testing.T) {
	l := words()
	for _, a := range l {
		for _, b := range l {
			if got, want := Add(a, b), cut(int64(a)+int64(b)); got != want {
				t.Fatalf("Add(%d, %d) = %d, want %d", a, b, got, want)
			}
			if got, want := Sub(a, b), cut(int64(a)-int64(b)); got != want {
				t.Fatalf("Sub(%d, %d) = %d, want %d", a, b, got, want)
			}
		}
	}
}

func TestNegAndAbsExamples(t *testing.T) {
	for _, c := range []struct{ x, neg, abs int32 }{
		{0, 0, 0}, {1, -1, 1}, {-1, 1, 1}, {3, -3, 3}, {-3, 3, 3}, {1 << 30, -1 << 30, 1 << 30}, {-1 << 30, 1 << 30, 1 << 30},
		{wordMax - 1, wordMin + 2, wordMax - 1}, {wordMax, wordMin + 1, wordMax},
		{wordMin + 2, wordMax - 1, wordMax - 1}, {wordMin + 1, wordMax, wordMax}, {wordMin, wordMax, wordMax},
	} {
		if got := Neg(c.x); got != c.neg {
			t.Errorf("Neg(%d) = %d, want %d", c.x, got, c.neg)
		}
		if got := Abs(c.x); got != c.abs {
			t.Errorf("Abs(%d) = %d, want %d", c.x, got, c.abs)
		}
	}
}

func TestNegAndAbsOfWords(t *testing.T) {
	for _, x := range words() {
		if got, want := Neg(x), cut(-int64(x)); got != want {
			t.Errorf("Neg(%d) = %d, want %d", x, got, want)
		}
		if got, want := Abs(x), cut(int64(apart(int64(x), 0))); got != want {
			t.Errorf("Abs(%d) = %d, want %d", x, got, want)
		}
	}
}

// P4.3

func TestClampExamples(t *testing.T) {
	for _, c := range []struct{ x, low, high, want int32 }{
		// below, at, next to, between and above the bounds
		{-9, -2, 4, -2}, {-3, -2, 4, -2}, {-2, -2, 4, -2}, {-1, -2, 4, -1}, {0, -2, 4, 0}, {3, -2, 4, 3}, {4, -2, 4, 4}, {5, -2, 4, 4}, {9, -2, 4, 4},
		// one bound
		{5, 6, 6, 6}, {6, 6, 6, 6}, {7, 6, 6, 6}, {0, 0, 0, 0}, {-1, 0, 0, 0}, {1, 0, 0, 0},
		// low above high: high, wherever x stands
		{5, 7, 6, 6}, {6, 7, 6, 6}, {7, 7, 6, 6}, {8, 7, 6, 6}, {3, 5, 4, 4}, {0, 9, -9, -9}, {-20, 9, -9, -9}, {20, 9, -9, -9}, {-9, 9, -9, -9}, {9, 9, -9, -9},
		// the ends of the words
		{wordMin, wordMin, wordMax, wordMin}, {wordMax, wordMin, wordMax, wordMax}, {0, wordMin, wordMax, 0}, {-7, wordMin, wordMax, -7},
		{wordMin, -1, 1, -1}, {wordMax, -1, 1, 1}, {wordMin, wordMin + 1, wordMax - 1, wordMin + 1}, {wordMax, wordMin + 1, wordMax - 1, wordMax - 1},
		{wordMin + 1, wordMin, wordMax, wordMin + 1}, {wordMax - 1, wordMin, wordMax, wordMax - 1},
		{0, wordMax, wordMin, wordMin}, {wordMax, wordMax, wordMin, wordMin}, {wordMin, wordMax, wordMin, wordMin},
		{0, wordMin, wordMin, wordMin}, {0, wordMax, wordMax, wordMax}, {wordMax, wordMin, wordMin, wordMin}, {wordMin, wordMax, wordMax, wordMax},
	} {
		if got := Clamp(c.x, c.low, c.high); got != c.want {
			t.Errorf("Clamp(%d, %d, %d) = %d, want %d", c.x, c.low, c.high, got, c.want)
		}
	}
}

// clamped is P4.3, case by case.
func clamped(x, low, high int32) int32 {
	switch {
	case x > high || low > high:
		return high
	case x < low:
		return low
	}
	return x
}

func TestClampByEachPairOfBounds(t *testing.T) {
	l := words()
	for i, low := range l {
		for j, high := range l {
			for _, x := range []int32{low, high, Sat(int64(low) - 1), Sat(int64(low) + 1), Sat(int64(high) - 1), Sat(int64(high) + 1), l[(i+5*j+3)%len(l)]} {
				if got, want := Clamp(x, low, high), clamped(x, low, high); got != want {
					t.Fatalf("Clamp(%d, %d, %d) = %d, want %d", x, low, high, got, want)
				}
			}
		}
	}
}

func TestClampOfSmallNumbers(t *testing.T) {
	for x := int32(-4); x <= 4; x++ {
		for low := int32(-4); low <= 4; low++ {
			for high := int32(-4); high <= 4; high++ {
				if got, want := Clamp(x, low, high), clamped(x, low, high); got != want {
					t.Fatalf("Clamp(%d, %d, %d) = %d, want %d", x, low, high, got, want)
				}
			}
		}
	}
}

// P4.4

func TestNoWordIsNearerThanWhatIsCutTo(t *testing.T) {
	l := words()
	for _, x := range numbers() {
		s := int64(Sat(x))
		near := apart(x, s)
		for _, w := range l {
			if w := int64(w); w != s && apart(x, w) <= near {
				t.Fatalf("Sat(%d) = %d, but %d is as near", x, s, w)
			}
		}
		for _, w := range []int64{s - 1, s + 1} {
			if w >= wordMin && w <= wordMax && apart(x, w) <= near {
				t.Fatalf("Sat(%d) = %d, but %d is as near", x, s, w)
			}
		}
	}
}

func TestSumsAreCutToTheNearestWord(t *testing.T) {
	l := words()
	for _, a := range l {
		for _, b := range l {
			for _, c := range []struct {
				exact int64
				got   int32
			}{{int64(a) + int64(b), Add(a, b)}, {int64(a) - int64(b), Sub(a, b)}, {-int64(a), Neg(a)}} {
				near := apart(c.exact, int64(c.got))
				for _, w := range []int64{int64(c.got) - 1, int64(c.got) + 1} {
					if w >= wordMin && w <= wordMax && apart(c.exact, w) <= near {
						t.Fatalf("of %d and %d: %d is cut to %d, but %d is as near", a, b, c.exact, c.got, w)
					}
				}
			}
		}
	}
}
