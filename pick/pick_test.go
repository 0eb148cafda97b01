package pick

import "testing"

const (
	wordMin = -1 << 31
	wordMax = 1<<31 - 1
)

// words: the edges, those at and around each power of 2, runs of ones, and some without a pattern.
func words() []int32 {
	l := []int32{0, 1, 2, 3, 5, -1, -2, -3, -8, wordMin, wordMin + 1, wordMax, wordMax - 1,
		0x55555555, -0x55555556, 0x0f0f0f0f, 0x12345678, -0x12345678, 0x7f80ff01}
	for n := range 31 {
		p := int32(1) << n
		l = append(l, p, p-1, p+1, -p, -p-1, -p+1)
	}
	x := int32(1)
	for range 64 {
		x = x*1103515245 + 12345
		l = append(l, x)
	}
	return l
}

// fromNought is x counted from 0 on.
func fromNought(x int32) int64 {
	n := int64(x)
	if n < 0 {
		n += 4294967296
	}
	return n
}

// modulo is the word that n is modulo 2^32, with a sign.
func modulo(n int64) int32 {
	n %= 4294967296
	if n < 0 {
		n += 4294967296
	}
	if n > wordMax {
		n -= 4294967296
	}
	return int32(n)
}

// bitwise is the word each of whose bits is what tell makes of x's, y's and z's: by quotients, not by the program's own means.
func bitwise(x, y, z int32, tell func(x, y, z int64) int64) int32 {
	a, b, c, sum, power := fromNought(x), fromNought(y), fromNought(z), int64(0), int64(1)
	for range 32 {
		sum += power * tell(a%2, b%2, c%2)
		a, b, c, power = a/2, b/2, c/2, power*2
	}
	return modulo(sum)
}

func oneIf(holds bool) int32 {
	if holds {
		return 1
	}
	return 0
}

func TestModuloMakesWordsOfNumbers(t *testing.T) {
	for _, x := range words() {
		if got := modulo(fromNought(x)); got != x {
			t.Errorf("%d, counted from 0 on, is the word %d", x, got)
		}
	}
}

// P3.1

func TestMaskExamples(t *testing.T) {
	for _, c := range []struct{ x, mask, sign int32 }{
		{0, 0, 0}, {1, -1, 0}, {2, -1, 0}, {7, -1, 0}, {1 << 30, -1, 0}, {wordMax - 1, -1, 0}, {wordMax, -1, 0},
		{-1, -1, -1}, {-2, -1, -1}, {-7, -1, -1}, {-1 << 30, -1, -1}, {wordMin + 1, -1, -1}, {wordMin, -1, -1},
	} {
		if got := Mask(c.x); got != c.mask {
			t.Errorf("Mask(%d) = %d, want %d", c.x, got, c.mask)
		}
		if got := Sign(c.x); got != c.sign {
			t.Errorf("Sign(%d) = %d, want %d", c.x, got, c.sign)
		}
	}
}

func TestMasksAreAllOnesOrNoughts(t *testing.T) {
	for _, x := range words() {
		if got, want := Mask(x), -oneIf(x != 0); got != want {
			t.Errorf("Mask(%d) = %d, want %d", x, got, want)
		}
		if got, want := Sign(x), -oneIf(x < 0); got != want {
			t.Errorf("Sign(%d) = %d, want %d", x, got, want)
		}
	}
}

func TestSelExamples(t *testing.T) {
	for _, c := range []struct{ m, a, b, want int32 }{
		{15, -1, 0, 15}, {15, 0, -1, -16}, {12, 10, 5, 9}, {5, 3, 12, 9}, {1, 2, 5, 4}, {-2, 7, 8, 6},
		{0, 3, 4, 4}, {-1, 3, 4, 3}, {0, -1, 0, 0}, {-1, -1, 0, -1}, {0, wordMin, wordMax, wordMax}, {-1, wordMin, wordMax, wordMin},
		{wordMin, -1, 0, wordMin}, {wordMax, -1, 0, wordMax}, {wordMin, 5, -1, wordMax}, {wordMax, 5, -1, wordMin + 5},
		{wordMin, wordMin, wordMax, -1}, {wordMax, wordMin, wordMax, 0}, {0x55555555, -1, 0, 0x55555555}, {0x55555555, 0, -1, -0x55555556},
	} {
		if got := Sel(c.m, c.a, c.b); got != c.want {
			t.Errorf("Sel(%d, %d, %d) = %d, want %d", c.m, c.a, c.b, got, c.want)
		}
	}
}

func TestSelGoesBitByBit(t *testing.T) {
	l := words()
	for i, m := range l {
		for j, a := range l {
			b := l[(i+3*j+7)%len(l)]
			want := bitwise(m, a, b, func(m, a, b int64) int64 { return m*a + (1-m)*b })
			if got := Sel(m, a, b); got != want {
				t.Fatalf("Sel(%d, %d, %d) = %d, want %d", m, a, b, got, want)
			}
		}
	}
}

// P3.2

func TestComparisonExamples(t *testing.T) {
	for _, c := range []struct{ a, b, less, under, same int32 }{
		{0, 0, 0, 0, 1}, {0, 1, 1, 1, 0}, {1, 0, 0, 0, 0}, {4, 4, 0, 0, 1}, {3, 4, 1, 1, 0}, {4, 3, 0, 0, 0},
		{-1, 0, 1, 0, 0}, {0, -1, 0, 1, 0}, {-1, 1, 1, 0, 0}, {1, -1, 0, 1, 0}, {-1, -1, 0, 0, 1}, {-2, -1, 1, 1, 0}, {-1, -2, 0, 0, 0},
		{wordMin, wordMax, 1, 0, 0}, {wordMax, wordMin, 0, 1, 0}, {wordMin, wordMin, 0, 0, 1}, {wordMax, wordMax, 0, 0, 1},
		{wordMin, 0, 1, 0, 0}, {0, wordMin, 0, 1, 0}, {wordMin, 1, 1, 0, 0}, {1, wordMin, 0, 1, 0}, {wordMin, -1, 1, 1, 0}, {-1, wordMin, 0, 0, 0},
		{wordMax, -1, 0, 1, 0}, {-1, wordMax, 1, 0, 0}, {wordMax, 0, 0, 0, 0}, {0, wordMax, 1, 1, 0}, {-2, wordMax, 1, 0, 0}, {wordMax, -2, 0, 1, 0},
		{wordMin, wordMin + 1, 1, 1, 0}, {wordMin + 1, wordMin, 0, 0, 0}, {wordMax - 1, wordMax, 1, 1, 0}, {wordMax, wordMax - 1, 0, 0, 0},
	} {
		if got := Less(c.a, c.b); got != c.less {
			t.Errorf("Less(%d, %d) = %d, want %d", c.a, c.b, got, c.less)
		}
		if got := Under(c.a, c.b); got != c.under {
			t.Errorf("Under(%d, %d) = %d, want %d", c.a, c.b, got, c.under)
		}
		if got := Same(c.a, c.b); got != c.same {
			t.Errorf("Same(%d, %d) = %d, want %d", c.a, c.b, got, c.same)
		}
	}
}

func TestComparisonsOfAllPairs(t *testing.T) {
	l := words()
	for _, a := range l {
		for _, b := range l {
			if got, want := Less(a, b), oneIf(a < b); got != want {
				t.Fatalf("Less(%d, %d) = %d, want %d", a, b, got, want)
			}
			if got, want := Under(a, b), oneIf(fromNought(a) < fromNought(b)); got != want {
				t.Fatalf("Under(%d, %d) = %d, want %d", a, b, got, want)
			}
			if got, want := Same(a, b), oneIf(a == b); got != want {
				t.Fatalf("Same(%d, %d) = %d, want %d", a, b, got, want)
			}
		}
	}
}

// P3.3

func TestMinAndMaxExamples(t *testing.T) {
	for _, c := range []struct{ a, b, min, max int32 }{
		{0, 0, 0, 0}, {0, 1, 0, 1}, {-3, 2, -3, 2}, {2, -3, -3, 2}, {-3, -2, -3, -2}, {7, 7, 7, 7}, {-7, -7, -7, -7}, {-1, 0, -1, 0}, {1, -1, -1, 1},
		{wordMin, wordMax, wordMin, wordMax}, {wordMax, wordMin, wordMin, wordMax}, {wordMin, 0, wordMin, 0}, {0, wordMin, wordMin, 0},
		{wordMin, 1, wordMin, 1}, {wordMax, -1, -1, wordMax}, {-2, wordMax, -2, wordMax}, {wordMax, 0, 0, wordMax},
		{wordMin, wordMin, wordMin, wordMin}, {wordMax, wordMax, wordMax, wordMax}, {wordMin, wordMin + 1, wordMin, wordMin + 1},
	} {
		if got := Min(c.a, c.b); got != c.min {
			t.Errorf("Min(%d, %d) = %d, want %d", c.a, c.b, got, c.min)
		}
		if got := Max(c.a, c.b); got != c.max {
			t.Errorf("Max(%d, %d) = %d, want %d", c.a, c.b, got, c.max)
		}
	}
}

func TestMinAndMaxOfAllPairs(t *testing.T) {
	l := words()
	for _, a := range l {
		for _, b := range l {
			if got, want := Min(a, b), min(a, b); got != want {
				t.Fatalf("Min(%d, %d) = %d, want %d", a, b, got, want)
			}
			if got, want := Max(a, b), max(a, b); got != want {
				t.Fatalf("Max(%d, %d) = %d, want %d", a, b, got, want)
			}
		}
	}
}

func TestFlipExamples(t *testing.T) {
	for _, c := range []struct{ x, m, want int32 }{
		{5, -1, -5}, {9, -1, -9}, {-9, -1, 9}, {0, -1, 0}, {-1, -1, 1}, {1, -1, -1}, {wordMin, -1, wordMin}, {wordMin + 1, -1, wordMax}, {wordMax, -1, wordMin + 1},
		{0, 0, 0}, {5, 0, 5}, {-5, 0, -5}, {wordMin, 0, wordMin}, {wordMax, 0, wordMax},
		{9, 1, 7}, {8, 1, 8}, {5, 3, 3}, {0, 12, 0}, {12, 12, -12}, {5, -2, -3}, {5, -8, 5},
		{0, wordMin, 0}, {wordMin, wordMin, wordMin}, {7, wordMin, 7}, {-7, wordMin, -7}, {wordMin, wordMax, wordMin}, {0, wordMax, 0}, {wordMax, wordMax, wordMin + 1}, {wordMin, 1, wordMin},
	} {
		if got := Flip(c.x, c.m); got != c.want {
			t.Errorf("Flip(%d, %d) = %d, want %d", c.x, c.m, got, c.want)
		}
	}
}

func TestFlipTurnsBitsAndTakesTheMask(t *testing.T) {
	l := words()
	for _, x := range l {
		if got := Flip(x, 0); got != x {
			t.Errorf("Flip(%d, 0) = %d", x, got)
		}
		if got, want := Flip(x, -1), modulo(-int64(x)); got != want {
			t.Errorf("Flip(%d, -1) = %d, want %d", x, got, want)
		}
		for _, m := range l {
			turned := bitwise(x, m, 0, func(x, m, _ int64) int64 { return (x + m) % 2 })
			if got, want := Flip(x, m), modulo(int64(turned)-int64(m)); got != want {
				t.Fatalf("Flip(%d, %d) = %d, want %d", x, m, got, want)
			}
		}
	}
}

// P3.4

func TestSelByAMaskIsOneOfBoth(t *testing.T) {
	l := words()
	for _, a := range l {
		for _, b := range l {
			if got := Sel(-1, a, b); got != a {
				t.Fatalf("Sel(-1, %d, %d) = %d", a, b, got)
			}
			if got := Sel(0, a, b); got != b {
				t.Fatalf("Sel(0, %d, %d) = %d", a, b, got)
			}
		}
	}
}

func TestSelByWhatMasksTellIsOneOfBoth(t *testing.T) {
	for _, x := range words() {
		if got, want := Sel(Mask(x), 3, 4), 4-oneIf(x != 0); got != want {
			t.Errorf("by the mask of %d, of 3 and 4: %d, want %d", x, got, want)
		}
		if got, want := Sel(Sign(x), 3, 4), 4-oneIf(x < 0); got != want {
			t.Errorf("by the sign of %d, of 3 and 4: %d, want %d", x, got, want)
		}
	}
}

func TestMinAndMaxTogetherAreBoth(t *testing.T) {
	l := words()
	for _, a := range l {
		for _, b := range l {
			least, most := Min(a, b), Max(a, b)
			if !(least == a && most == b) && !(least == b && most == a) {
				t.Fatalf("of %d and %d the less one is %d, the greater one %d", a, b, least, most)
			}
			if least > most {
				t.Fatalf("of %d and %d the less one, %d, is above the greater one, %d", a, b, least, most)
			}
		}
	}
}
