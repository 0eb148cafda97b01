package fix

import (
	"math/big"
	"testing"

	"astrolabe/word"
)

const (
	wordMin   = -1 << 31
	wordMax   = 1<<31 - 1
	numberMin = -1 << 63
	numberMax = 1<<63 - 1
)

// words: the edges, those at and around each power of 2, and some without a pattern.
func words() []int32 {
	l := []int32{0, 1, 2, 3, 5, -1, -2, -3, -8, wordMin, wordMin + 1, wordMin + 2, wordMax, wordMax - 1, wordMax - 2,
		0x55555555, -0x55555556, 0x12345678, -0x12345678, 759250125, -759250125}
	for n := range 31 {
		p := int32(1) << n
		l = append(l, p, p-1, p+1, -p, -p-1, -p+1)
	}
	x := int32(1)
	for range 64 {
		x = x*1103515245 + 12345
		l = append(l, x)
	}
	return l
}

// numbers: the ends of 64 bits and those next to them, those around each power of 2, products of words, and some without a pattern.
func numbers() []int64 {
	l := []int64{0, numberMin, numberMin + 1, numberMin + 2, numberMin + 3, numberMax, numberMax - 1, numberMax - 2, numberMax - 3, 0x0123456789abcdef, -0x0123456789abcdef}
	for n := range 63 {
		p := int64(1) << n
		l = append(l, p, p-1, p+1, -p, -p-1, -p+1)
	}
	for _, w := range words() {
		l = append(l, int64(w), int64(w)*3, int64(w)*int64(w), -int64(w)*int64(w))
	}
	x := int64(1)
	for range 256 {
		x = x*6364136223846793005 + 1442695040888963407
		l = append(l, x)
	}
	return l
}

// power is 2^n.
func power(n int) *big.Int {
	p := big.NewInt(1)
	for range n {
		p.Add(p, p)
	}
	return p
}

// nearest is the whole number that is nearest to x by 2^n, of two as near the greater one; found by comparing the two between which x by 2^n stands.
func nearest(x *big.Int, n int) *big.Int {
	m := power(n)
	// Of a divisor above 0 the rest is never below 0, so the quotient is the one below.
	below, rest := new(big.Int).DivMod(x, m, new(big.Int))
	above := new(big.Int).Add(below, big.NewInt(1))
	if up := new(big.Int).Sub(m, rest); up.Cmp(rest) <= 0 {
		return above
	}
	return below
}

// product is what a and b come to, without bound.
func product(a, b int32) *big.Int {
	return new(big.Int).Mul(big.NewInt(int64(a)), big.NewInt(int64(b)))
}

// cut is x, cut to a word.
func cut(x *big.Int) int32 {
	if x.Cmp(big.NewInt(wordMin)) < 0 {
		return wordMin
	}
	if x.Cmp(big.NewInt(wordMax)) > 0 {
		return wordMax
	}
	return int32(x.Int64())
}

// P5.1

func TestRoundExamples(t *testing.T) {
	for _, c := range []struct {
		x    int64
		n    int
		want int64
	}{
		// halves, and what stands on both sides of them
		{-3, 1, -1}, {3, 1, 2}, {5, 1, 3}, {-5, 1, -2}, {1, 1, 1}, {-1, 1, 0}, {0, 1, 0}, {2, 1, 1}, {-2, 1, -1},
		{1, 2, 0}, {2, 2, 1}, {3, 2, 1}, {5, 2, 1}, {6, 2, 2}, {7, 2, 2}, {-1, 2, 0}, {-2, 2, 0}, {-3, 2, -1}, {-5, 2, -1}, {-6, 2, -1}, {-7, 2, -2},
		{1<<29 - 1, 30, 0}, {1 << 29, 30, 1}, {1<<29 + 1, 30, 1}, {-1<<29 - 1, 30, -1}, {-1 << 29, 30, 0}, {-1<<29 + 1, 30, 0},
		{1<<15 - 1, 16, 0}, {1 << 15, 16, 1}, {3<<15 - 1, 16, 1}, {3 << 15, 16, 2}, {-3 << 15, 16, -1}, {-3<<15 - 1, 16, -2},
		// by 2^62
		{1<<61 - 1, 62, 0}, {1 << 61, 62, 1}, {1 << 62, 62, 1}, {3<<61 - 1, 62, 1}, {3 << 61, 62, 2}, {numberMax, 62, 2},
		{-1<<61 + 1, 62, 0}, {-1 << 61, 62, 0}, {-1<<61 - 1, 62, -1}, {-3 << 61, 62, -1}, {-3<<61 - 1, 62, -2}, {numberMin, 62, -2}, {numberMin + 1, 62, -2},
		{0, 62, 0}, {1, 62, 0}, {-1, 62, 0},
		// the ends don't go round
		{numberMax, 1, 1 << 62}, {numberMax - 1, 1, 1<<62 - 1}, {numberMax - 2, 1, 1<<62 - 1}, {numberMax, 2, 1 << 61}, {numberMax - 1, 2, 1 << 61}, {numberMax - 2, 2, 1<<61 - 1}, {numberMax - 3, 2, 1<<61 - 1},
		{numberMin, 1, -1 << 62}, {numberMin + 1, 1, -1<<62 + 1}, {numberMin + 2, 1, -1<<62 + 1}, {numberMin, 2, -1 << 61}, {numberMin + 1, 2, -1 << 61}, {numberMin + 2, 2, -1<<61 + 1},
		{numberMax, 30, 1 << 33}, {numberMin, 30, -1 << 33}, {numberMax, 61, 4}, {numberMin, 61, -4},
	} {
		if got := Round(c.x, c.n); got != c.want {
			t.Errorf("Round(%d, %d) = %d, want %d", c.x, c.n, got, c.want)
		}
	}
}

func TestRoundIsTheNearest(t *testing.T) {
	for n := 1; n <= 62; n++ {
		for _, x := range numbers() {
			if got, want := Round(x, n), nearest(big.NewInt(x), n); big.NewInt(got).Cmp(want) != 0 {
				t.Fatalf("Round(%d, %d) = %d, want %s", x, n, got, want)
			}
		}
	}
}

func TestRoundAroundHalves(t *testing.T) {
	for n := 1; n <= 62; n++ {
		half := int64(1) << (n - 1)
		// The least and the greatest units are those whose halves still are numbers of 64 bits.
		least, greatest := -int64(1)<<(63-n), int64(1)<<(63-n)-1
		for _, units := range []int64{least, least + 1, -5, -4, -3, -2, -1, 0, 1, 2, 3, 4, greatest - 1, greatest} {
			if units < least || units > greatest {
				continue
			}
			x := units<<n + half
			if got := Round(x-1, n); got != units {
				t.Errorf("Round(%d, %d) = %d, want %d, just below a half", x-1, n, got, units)
			}
			if got := Round(x, n); got != units+1 {
				t.Errorf("Round(%d, %d) = %d, want %d, at a half", x, n, got, units+1)
			}
			// By 2 the next number above the last half is none of 64 bits.
			if x == numberMax {
				continue
			}
			if got := Round(x+1, n); got != units+1 {
				t.Errorf("Round(%d, %d) = %d, want %d, just above a half", x+1, n, got, units+1)
			}
		}
	}
}

func TestRoundOfOtherPowersIsTheNumber(t *testing.T) {
	far := []int{0, -1, -2, -30, -62, -63, -64, 63, 64, 65, 94, 126, 127, 128, 255, 256, 257, 1 << 16, 1<<16 + 1, -1 << 16, -1<<16 + 1,
		1<<31 - 1, 1 << 31, 1<<31 + 1, 1<<32 + 1, -1<<31 + 1, -1<<32 + 1, 1<<63 - 1, -1 << 63, -1<<63 + 1}
	for _, n := range far {
		for _, x := range numbers() {
			if got := Round(x, n); got != x {
				t.Fatalf("Round(%d, %d) = %d", x, n, got)
			}
		}
	}
	if got := Round(7, 0); got != 7 {
		t.Errorf("Round(7, 0) = %d", got)
	}
}

// P5.2

type example struct{ a, b, want int32 }

func checkExamples(t *testing.T, name string, call func(a, b int32) int32, l []example) {
	t.Helper()
	for _, c := range l {
		if got := call(c.a, c.b); got != c.want {
			t.Errorf("%s(%d, %d) = %d, want %d", name, c.a, c.b, got, c.want)
		}
		if got := call(c.b, c.a); got != c.want {
			t.Errorf("%s(%d, %d) = %d, want %d", name, c.b, c.a, got, c.want)
		}
	}
}

func TestMulqExamples(t *testing.T) {
	const one, half = 1 << 30, 1 << 29
	checkExamples(t, "Mulq", Mulq, []example{
		{one, 0, 0}, {one, 7, 7}, {one, -7, -7}, {one, one, one}, {one, wordMax, wordMax}, {one, wordMin, wordMin}, {one, wordMax - 1, wordMax - 1}, {one, wordMin + 1, wordMin + 1},
		{-one, 7, -7}, {-one, -7, 7}, {-one, -one, one}, {-one, one, -one}, {-one, wordMax, wordMin + 1}, {-one, wordMin + 1, wordMax}, {-one, wordMin, wordMax},
		{0, 0, 0}, {0, 1, 0}, {0, -1, 0}, {0, wordMin, 0}, {0, wordMax, 0}, {1, 1, 0}, {1, -1, 0}, {-1, -1, 0}, {65536, 65536, 4}, {65536, -65536, -4}, {32768, 32768, 1}, {32768, -32768, -1},
		{half, half, 1 << 28}, {half, 1, 1}, {half, -1, 0}, {half - 1, 1, 0}, {half + 1, 1, 1}, {half - 1, -1, 0}, {half + 1, -1, -1}, {half, 3, 2}, {half, -3, -1}, {-half, 1, 0}, {-half, -1, 1}, {half, -2, -1},
		{one, 1, 1}, {one - 1, 1, 1}, {one + 1, 1, 1}, {one - 1, -1, -1}, {one + 1, -1, -1}, {one + 1, one + 1, one + 2}, {one - 1, one - 1, one - 2}, {one + 1, one - 1, one},
		{wordMax, 1, 2}, {wordMin, 1, -2}, {wordMax, -1, -2}, {wordMin, -1, 2},
		// cut, and just not
		{wordMin, wordMin, wordMax}, {wordMin, wordMax, wordMin}, {wordMax, wordMax, wordMax}, {wordMin, wordMin + 1, wordMax}, {wordMax - 1, wordMax, wordMax},
		{wordMax, one + 1, wordMax}, {wordMax, one - 1, wordMax - 2}, {wordMin, one + 1, wordMin}, {wordMin, one - 1, wordMin + 2}, {wordMin, -one + 1, wordMax - 1}, {wordMin, -one - 1, wordMax},
		{wordMax, -one - 1, wordMin}, {wordMax, -one + 1, wordMin + 3},
	})
}

func TestMulrExamples(t *testing.T) {
	const one, half = 1 << 16, 1 << 15
	checkExamples(t, "Mulr", Mulr, []example{
		{one, 0, 0}, {one, 7, 7}, {one, -7, -7}, {one, one, one}, {one, wordMax, wordMax}, {one, wordMin, wordMin}, {one, wordMax - 1, wordMax - 1}, {one, wordMin + 1, wordMin + 1},
		{-one, 7, -7}, {-one, -7, 7}, {-one, -one, one}, {-one, wordMax, wordMin + 1}, {-one, wordMin + 1, wordMax}, {-one, wordMin, wordMax},
		{0, 0, 0}, {0, 1, 0}, {0, -1, 0}, {0, wordMin, 0}, {0, wordMax, 0}, {1, 1, 0}, {1, -1, 0}, {-1, -1, 0}, {256, 256, 1}, {256, -256, -1},
		{half, 1, 1}, {half, -1, 0}, {half - 1, 1, 0}, {half + 1, 1, 1}, {half - 1, -1, 0}, {half + 1, -1, -1}, {half, 3, 2}, {half, -3, -1}, {-half, 1, 0}, {-half, -1, 1},
		{one + 1, 1, 1}, {one - 1, 1, 1}, {one + 1, -1, -1}, {one - 1, -1, -1}, {one + 1, one + 1, one + 2}, {one - 1, one - 1, one - 2},
		{1 << 30, 1, 1 << 14}, {1 << 30, -1, -1 << 14}, {1 << 30, 2, 1 << 15}, {wordMax, 1, half}, {wordMin, 1, -half}, {wordMax, -1, -half}, {wordMin, -1, half},
		// cut, and just not
		{1 << 30, 131072, wordMax}, {1 << 30, 131071, wordMax - 16383}, {1 << 30, -131072, wordMin}, {1 << 30, -131073, wordMin}, {1 << 30, -131071, wordMin + 16384},
		{wordMin, 1 << 20, wordMin}, {wordMin, -1 << 20, wordMax}, {wordMax, one + 1, wordMax}, {wordMin, one + 1, wordMin}, {wordMax, one - 1, wordMax - 32768}, {wordMin, one - 1, wordMin + 32768},
		{wordMin, wordMin, wordMax}, {wordMin, wordMax, wordMin}, {wordMax, wordMax, wordMax}, {1 << 30, 1 << 30, wordMax}, {1 << 30, -1 << 30, wordMin},
		// 11863283 is the greatest number whose square is below 2^47
		{11863283, 11863283, 2147483574}, {-11863283, 11863283, -2147483574}, {11863283, 11863284, wordMax}, {-11863283, 11863284, wordMin}, {11863284, 11863284, wordMax},
	})
}

func TestScaledProductsAreTheNearestCut(t *testing.T) {
	l := words()
	for _, a := range l {
		for _, b := range l {
			p := product(a, b)
			if got, want := Mulq(a, b), cut(nearest(p, 30)); got != want {
				t.Fatalf("Mulq(%d, %d) = %d, want %d", a, b, got, want)
			}
			if got, want := Mulr(a, b), cut(nearest(p, 16)); got != want {
				t.Fatalf("Mulr(%d, %d) = %d, want %d", a, b, got, want)
			}
		}
	}
}

func TestOneLeavesWordsAsTheyAre(t *testing.T) {
	for _, x := range words() {
		if got := Mulq(1<<30, x); got != x {
			t.Errorf("Mulq(2^30, %d) = %d", x, got)
		}
		if got := Mulr(65536, x); got != x {
			t.Errorf("Mulr(65536, %d) = %d", x, got)
		}
	}
}

// P5.3

func TestMulhExamples(t *testing.T) {
	checkExamples(t, "Mulh", Mulh, []example{
		{0, 0, 0}, {0, -1, 0}, {1, 1, 0}, {1, -1, -1}, {-1, -1, 0}, {7, 9, 0}, {7, -9, -1}, {65536, 65536, 1}, {65536, -65536, -1}, {65536, 65535, 0}, {65537, 65536, 1}, {65536, -65537, -2},
		{1 << 20, 1 << 20, 256}, {1 << 30, 1 << 30, 1 << 28}, {1 << 30, -1 << 30, -1 << 28}, {1 << 30, 4, 1}, {1 << 30, 3, 0}, {1 << 30, -1, -1}, {1 << 30, -4, -1}, {1 << 30, -5, -2},
		{wordMin, 1, -1}, {wordMin, 2, -1}, {wordMin, 3, -2}, {wordMin, -1, 0}, {wordMin, -2, 1}, {wordMin, 0, 0}, {wordMax, 1, 0}, {wordMax, 2, 0}, {wordMax, 3, 1}, {wordMax, -1, -1}, {wordMax, -3, -2},
		{wordMin, wordMin, 1 << 30}, {wordMin, wordMax, -1 << 30}, {wordMax, wordMax, 1<<30 - 1}, {wordMin, wordMin + 1, 1<<30 - 1}, {wordMin + 1, wordMin + 1, 1<<30 - 1}, {wordMax - 1, wordMin, -1<<30 + 1},
	})
}

func TestMullExamples(t *testing.T) {
	checkExamples(t, "Mull", Mull, []example{
		{0, 0, 0}, {0, -1, 0}, {1, 1, 1}, {1, -1, -1}, {-1, -1, 1}, {7, 9, 63}, {7, -9, -63}, {65536, 65536, 0}, {65536, 65535, -65536}, {65536, 32768, wordMin}, {65536, -32768, wordMin}, {65537, 65536, 65536}, {65535, 32769, wordMin + 32767},
		{1 << 20, 1 << 20, 0}, {1 << 30, 1 << 30, 0}, {1 << 30, 2, wordMin}, {1 << 30, 3, -1 << 30}, {1 << 30, 4, 0}, {1 << 30, 5, 1 << 30}, {1 << 30, -1, -1 << 30},
		{wordMin, 0, 0}, {wordMin, 1, wordMin}, {wordMin, 2, 0}, {wordMin, 3, wordMin}, {wordMin, -1, wordMin}, {wordMax, 1, wordMax}, {wordMax, 2, -2}, {wordMax, -1, wordMin + 1}, {wordMax, 3, wordMax - 2},
		{wordMin, wordMin, 0}, {wordMin, wordMax, wordMin}, {wordMax, wordMax, 1}, {wordMax - 1, wordMax, wordMin + 2}, {wordMin, wordMin + 1, wordMin}, {wordMin + 1, wordMin + 1, 1},
	})
}

func TestHalvesOfProducts(t *testing.T) {
	m := power(32)
	l := words()
	for _, a := range l {
		for _, b := range l {
			// The rest is counted from 0 on, so the quotient is rounded down.
			high, low := new(big.Int).DivMod(product(a, b), m, new(big.Int))
			if low.Cmp(big.NewInt(wordMax)) > 0 {
				low.Sub(low, m)
			}
			if got := Mulh(a, b); int64(got) != high.Int64() {
				t.Fatalf("Mulh(%d, %d) = %d, want %s", a, b, got, high)
			}
			if got := Mull(a, b); int64(got) != low.Int64() {
				t.Fatalf("Mull(%d, %d) = %d, want %s", a, b, got, low)
			}
		}
	}
}

// P5.4

// checkNear holds what a product by 2^n came to against the product: at most half a unit away (exactly half only above it), or cut.
func checkNear(t *testing.T, a, b, got int32, n int) {
	t.Helper()
	unit := power(n)
	half := power(n - 1)
	// How far what was answered stands above the product, in parts of 2^-n.
	above := new(big.Int).Mul(big.NewInt(int64(got)), unit)
	above.Sub(above, product(a, b))
	switch far := above.CmpAbs(half); {
	case far < 0, far == 0 && above.Sign() > 0:
		return
	case got == wordMax && above.Sign() < 0, got == wordMin && above.Sign() > 0:
		// Cut: the nearest number is no word.
		return
	}
	t.Fatalf("of %d and %d by 2^%d: %d, which is %s parts off", a, b, n, got, above)
}

func TestScaledProductsAreNear(t *testing.T) {
	l := words()
	for _, a := range l {
		for _, b := range l {
			checkNear(t, a, b, Mulq(a, b), 30)
			checkNear(t, a, b, Mulr(a, b), 16)
		}
	}
}

func TestSmallProductsAreNear(t *testing.T) {
	// Around half a unit, each product by each: where the rounding turns.
	for a := int32(-40); a <= 40; a++ {
		for d := int32(-40); d <= 40; d++ {
			checkNear(t, a, 1<<29+d, Mulq(a, 1<<29+d), 30)
			checkNear(t, a, -1<<29+d, Mulq(a, -1<<29+d), 30)
			checkNear(t, a, 1<<15+d, Mulr(a, 1<<15+d), 16)
			checkNear(t, a, -1<<15+d, Mulr(a, -1<<15+d), 16)
		}
	}
}

// P5.5

func TestBothHalvesJoinedAreTheProduct(t *testing.T) {
	l := words()
	for _, a := range l {
		for _, b := range l {
			if got, want := word.Join(Mulh(a, b), Mull(a, b)), product(a, b); big.NewInt(got).Cmp(want) != 0 {
				t.Fatalf("both halves of %d by %d, joined: %d, want %s", a, b, got, want)
			}
		}
	}
}

func TestRoundedHalvesAreTheScaledProducts(t *testing.T) {
	l := words()
	for _, a := range l {
		for _, b := range l {
			whole := word.Join(Mulh(a, b), Mull(a, b))
			if got, want := Mulq(a, b), cut(big.NewInt(Round(whole, 30))); got != want {
				t.Fatalf("Mulq(%d, %d) = %d, its halves rounded: %d", a, b, got, want)
			}
			if got, want := Mulr(a, b), cut(big.NewInt(Round(whole, 16))); got != want {
				t.Fatalf("Mulr(%d, %d) = %d, its halves rounded: %d", a, b, got, want)
			}
		}
	}
}
