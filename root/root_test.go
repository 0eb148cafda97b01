package root_test

import (
	"math/big"
	"testing"

	"astrolabe/root"
)

const (
	wordMin = -1 << 31
	wordMax = 1<<31 - 1
	turns   = 1 << 32 // how many words there are
	one     = 1 << 30
)

// words: the edges, those at and around each power of 2, and some without a pattern, of all lengths.
func words() []int32 {
	l := []int32{0, 3, 5, 7, -5, -7, wordMin, wordMin + 1, wordMin + 2, wordMin + 3, wordMax, wordMax - 1, wordMax - 2, wordMax - 3,
		0x55555555, -0x55555556, 0x12345678, -0x12345678, 759250125, -759250125}
	for n := range 31 {
		p := int32(1) << n
		l = append(l, p, p-1, p+1, -p, -p-1, -p+1)
	}
	x := int32(1)
	for i := range 2000 {
		x = x*1103515245 + 12345
		l = append(l, x>>(i%31))
	}
	return l
}

// above: words from 1 on: all small ones, those for some way around each power of 2 and below the greatest, squares and those beside them, and the ones of words.
func above() []int32 {
	var l []int32
	for x := int32(1); x <= 5000; x++ {
		l = append(l, x, wordMax-x+1)
	}
	for n := range 31 {
		for d := int32(-40); d <= 40; d++ {
			l = append(l, 1<<n+d)
		}
	}
	for k := int32(2); k <= 46340; k += 7 {
		l = append(l, k*k-1, k*k, k*k+1)
	}
	l = append(l, words()...)
	n := 0
	for _, x := range l {
		if x >= 1 {
			l[n] = x
			n++
		}
	}
	return l[:n]
}

// The reckoning of the tests is that of whole numbers of 64 bits, by sums, products, quotients and rests: no layer judges itself.

// signed is the word that is x modulo 2^32.
func signed(x int64) int64 {
	r := counted(x)
	if r > wordMax {
		r -= turns
	}
	return r
}

// counted is x modulo 2^32, from 0 on.
func counted(x int64) int64 { return (x%turns + turns) % turns }

// cut is x, or the word that is nearest to it.
func cut(x int64) int64 {
	if x < wordMin {
		return wordMin
	}
	if x > wordMax {
		return wordMax
	}
	return x
}

// below is x by m, rounded down.
func below(x, m int64) int64 {
	q := x / m
	if q*m > x {
		q--
	}
	return q
}

// power is 2^n.
func power(n int64) int64 {
	p := int64(1)
	for range n {
		p *= 2
	}
	return p
}

// product is that of two words by 2^30: the nearest whole number, of two as near the greater one, cut.
func product(a, b int64) int64 {
	q := below(a*b, one)
	if a*b-q*one >= (q+1)*one-a*b {
		q++
	}
	return cut(q)
}

// noughts is how many stand above the highest 1 of a word.
func noughts(x int64) int64 {
	n := int64(32)
	for x = counted(x); x > 0; x /= 2 {
		n--
	}
	return n
}

// lifted is a word t places up, by t's lowest five bits, and two down, noughts coming at the top.
func lifted(x, t int64) int64 {
	return counted(counted(x)*power(t%32)) / 4
}

// level is what the chapter says of it.
func level(x int64) (int64, int64) {
	t := noughts(x)
	// Of 32 and 30 no bit is in both.
	t = (t - t%2) % 32
	return lifted(x, t), t / 2
}

// rsqrt is what the chapter says of it, but for so many steps.
func rsqrt(x int64, steps int) (int64, int64) {
	u, h := level(x)
	z := cut(1184766729 - product(715827883, u))
	for range steps {
		e := cut(one - signed(product(u, product(z, z))*4))
		z = cut(z + below(product(z, e), 2))
	}
	return z, h
}

// scale is what the chapter says of it.
func scale(v, z, h int64) int64 {
	return signed(counted(product(v, z)) % power(32-counted(h)%32) * power(counted(h)%32))
}

// recip is what the chapter says of it, but for so many steps.
func recip(x int64, steps int) (int64, int64) {
	t := noughts(x)
	v := lifted(x, t)
	z := cut(1564549212 - v)
	for range steps {
		e := cut(one - signed(product(v, z)*2))
		z = cut(z + product(z, e))
	}
	return z, t - 1
}

// The steps of the chapter.
const four = 4

// pair is a word, and two that are answered of it.
type pair struct{ x, first, second int32 }

func checkPairs(t *testing.T, name string, call func(x int32) (int32, int32), l []pair) {
	t.Helper()
	for _, c := range l {
		if a, b := call(c.x); a != c.first || b != c.second {
			t.Errorf("%s(%d) = %d, %d, want %d, %d", name, c.x, a, b, c.first, c.second)
		}
	}
}

// P8.1

func TestLevelExamples(t *testing.T) {
	checkPairs(t, "Level", root.Level, []pair{
		{1, 1 << 28, 15}, {2, 1 << 29, 15}, {3, 3 << 28, 15}, {4, 1 << 28, 14}, {5, 5 << 26, 14}, {7, 7 << 26, 14}, {8, 1 << 29, 14}, {9, 9 << 26, 14}, {15, 15 << 26, 14}, {16, 1 << 28, 13}, {17, 17 << 24, 13},
		// clz even, and odd
		{1<<28 - 1, 1<<30 - 4, 2}, {1 << 28, 1 << 28, 1}, {1<<28 + 1, 1<<28 + 1, 1}, {1<<29 - 1, 1<<29 - 1, 1}, {1 << 29, 1 << 29, 1}, {1<<29 + 1, 1<<29 + 1, 1}, {759250125, 759250125, 1}, {1<<30 - 1, 1<<30 - 1, 1},
		// what two places down loses
		{1 << 30, 1 << 28, 0}, {1<<30 + 1, 1 << 28, 0}, {1<<30 + 3, 1 << 28, 0}, {1<<30 + 4, 1<<28 + 1, 0}, {3 << 29, 3 << 27, 0}, {wordMax - 3, 1<<29 - 1, 0}, {wordMax - 1, 1<<29 - 1, 0}, {wordMax, 1<<29 - 1, 0},
		// 0, and below
		{0, 0, 0}, {-1, 1<<30 - 1, 0}, {-2, 1<<30 - 1, 0}, {-4, 1<<30 - 1, 0}, {-5, 1<<30 - 2, 0}, {-1 << 30, 3 << 28, 0}, {wordMin, 1 << 29, 0}, {wordMin + 1, 1 << 29, 0}, {wordMin + 4, 1<<29 + 1, 0},
	})
}

func TestLevelsOfPowers(t *testing.T) {
	for n := int32(0); n <= 30; n += 2 {
		if u, h := root.Level(1 << n); u != 1<<28 || h != 15-n/2 {
			t.Errorf("Level(2^%d) = %d, %d", n, u, h)
		}
		if n == 30 {
			break
		}
		if u, h := root.Level(2 << n); u != 1<<29 || h != 15-n/2 {
			t.Errorf("Level(2^%d) = %d, %d", n+1, u, h)
		}
	}
}

func TestLevelIsWhatIsReckoned(t *testing.T) {
	for _, x := range words() {
		wantU, wantH := level(int64(x))
		if u, h := root.Level(x); int64(u) != wantU || int64(h) != wantH {
			t.Fatalf("Level(%d) = %d, %d, want %d, %d", x, u, h, wantU, wantH)
		}
	}
}

func TestRsqrtExamples(t *testing.T) {
	checkPairs(t, "Rsqrt", root.Rsqrt, []pair{
		{1, 1 << 30, 15}, {2, 759250125, 15}, {3, 619925131, 15}, {4, 1 << 30, 14}, {5, 960383883, 14}, {6, 876706528, 14}, {7, 811672524, 14}, {8, 759250125, 14}, {9, 715827882, 14}, {15, 554477894, 14}, {16, 1 << 30, 13}, {17, 1041682577, 13},
		{100, 858993458, 12}, {1000, 543275165, 11}, {65535, 536875008, 8}, {65536, 1 << 30, 7}, {65537, 1073733632, 7},
		{1<<28 - 1, 536870913, 2}, {1 << 28, 1 << 30, 1}, {1<<28 + 1, 1073741822, 1}, {1<<29 - 1, 759250126, 1}, {1 << 29, 759250125, 1}, {1<<29 + 1, 759250125, 1}, {3 << 28, 619925131, 1}, {759250125, 638450708, 1},
		{1<<30 - 1, 1 << 29, 1}, {1 << 30, 1 << 30, 0}, {1<<30 + 1, 1 << 30, 0}, {3 << 29, 876706528, 0}, {wordMax - 1, 759250126, 0}, {wordMax, 759250126, 0},
		// 0, and below
		{0, wordMax, 0}, {-1, 1 << 29, 0}, {-2, 1 << 29, 0}, {-4, 1 << 29, 0}, {-1 << 30, 619925131, 0}, {-1<<30 - 1, 619925132, 0}, {wordMin, 759250125, 0}, {wordMin + 1, 759250125, 0},
	})
}

func TestRsqrtIsWhatIsReckoned(t *testing.T) {
	for _, x := range words() {
		wantZ, wantH := rsqrt(int64(x), four)
		if z, h := root.Rsqrt(x); int64(z) != wantZ || int64(h) != wantH {
			t.Fatalf("Rsqrt(%d) = %d, %d, want %d, %d", x, z, h, wantZ, wantH)
		}
	}
}

// behind is a word, and what z is behind no step, one, and so on.
type behind struct {
	x int32
	z [6]int64
}

// checkSteps holds the tests' own steps, and that a call answers the z behind the fourth one.
func checkSteps(t *testing.T, name string, call func(x int32) (int32, int32), reckon func(x int64, steps int) (int64, int64), l []behind) {
	t.Helper()
	for _, c := range l {
		for n, want := range c.z {
			if z, _ := reckon(int64(c.x), n); z != want {
				t.Errorf("z of %d behind %d steps is reckoned to be %d, want %d", c.x, n, z, want)
			}
		}
		if z, _ := call(c.x); int64(z) != c.z[four] {
			t.Errorf("%s(%d) = %d, want %d; behind the steps: %d", name, c.x, z, c.z[four], c.z)
		}
	}
}

// Words of which z changes with each step, also with a fifth one.
func TestRsqrtHasFourSteps(t *testing.T) {
	checkSteps(t, "Rsqrt", root.Rsqrt, rsqrt, []behind{
		{7, [6]int64{871592030, 804874162, 811587351, 811672511, 811672524, 811672525}},
		{27, [6]int64{882776841, 820703095, 826504592, 826566835, 826566841, 826566842}},
		{29, [6]int64{860407220, 789930629, 797446412, 797555382, 797555404, 797555405}},
		{124551739, [6]int64{852628758, 780035555, 788035734, 788160924, 788160955, 788160953}},
		{695425565, [6]int64{721149685, 660360659, 667003497, 667105418, 667105441, 667105442}},
		{1763673107, [6]int64{890821212, 832661486, 837753585, 837800772, 837800776, 837800777}},
		{-5767953, [6]int64{469900172, 525102519, 536824094, 537231308, 537231772, 537231773}},
		{-2068723310, [6]int64{813726065, 736106887, 745514491, 745698699, 745698767, 745698768}},
		{0, [6]int64{1184766729, 1777150093, wordMax, wordMax, wordMax, wordMax}},
	})
}

// P8.2

func TestScaleExamples(t *testing.T) {
	for _, c := range []struct{ v, z, h, want int32 }{
		{0, 0, 0, 0}, {0, one, 15, 0}, {7, one, 0, 7}, {7, one, 1, 14}, {7, one, 15, 7 << 15}, {one, 1 << 29, 1, one}, {one, 1 << 29, 0, 1 << 29}, {3, 1 << 29, 0, 2}, {3, 1 << 29, 3, 16},
		// words below 0
		{-7, one, 0, -7}, {-7, one, 2, -28}, {7, -one, 2, -28}, {-5, one, 15, -163840}, {-3, 1 << 29, 0, -1}, {-7, 759250125, 4, -80}, {123456789, -759250125, 3, -698377064}, {-1, 1 << 29, 0, 0}, {wordMin, one, 0, wordMin}, {wordMin, one, 1, 0},
		// h beyond 15, and below 0: its lowest five bits
		{5, one, 16, 5 << 16}, {5, one, 28, 5 << 28}, {5, one, 31, wordMin}, {5, one, 32, 5}, {5, one, 33, 10}, {5, one, -1, wordMin}, {5, one, -31, 10}, {-5, one, -32, -5}, {-5, one, -28, -80}, {5, one, wordMin, 5}, {5, one, wordMax, wordMin},
		// the product is cut, what is shifted out is lost
		{wordMax, wordMax, 0, wordMax}, {wordMax, wordMax, 1, -2}, {wordMin, wordMin, 0, wordMax}, {wordMin, wordMax, 0, wordMin}, {wordMin, wordMax, 1, 0}, {wordMax, one, 1, -2}, {one, one, 2, 0},
	} {
		if got := root.Scale(c.v, c.z, c.h); got != c.want {
			t.Errorf("Scale(%d, %d, %d) = %d, want %d", c.v, c.z, c.h, got, c.want)
		}
	}
}

func TestScaleIsWhatIsReckoned(t *testing.T) {
	l := words()[:300]
	shifts := []int32{wordMin, wordMin + 1, wordMax, wordMax - 1}
	for h := int32(-70); h <= 70; h++ {
		shifts = append(shifts, h)
	}
	for i, v := range l {
		for j, z := range l {
			h := shifts[(i+j*7)%len(shifts)]
			if got, want := root.Scale(v, z, h), scale(int64(v), int64(z), int64(h)); int64(got) != want {
				t.Fatalf("Scale(%d, %d, %d) = %d, want %d", v, z, h, got, want)
			}
		}
	}
	for _, h := range shifts {
		for _, v := range l {
			if got, want := root.Scale(v, 759250125, h), scale(int64(v), 759250125, int64(h)); int64(got) != want {
				t.Fatalf("Scale(%d, 759250125, %d) = %d, want %d", v, h, got, want)
			}
		}
	}
}

func TestSqrtExamples(t *testing.T) {
	for _, c := range []struct{ x, want int32 }{
		{1, 32768}, {2, 32768}, {3, 65536}, {4, 65536}, {5, 65536}, {6, 81920}, {8, 98304}, {9, 98304}, {10, 98304}, {15, 131072}, {16, 131072}, {17, 131072},
		// squares, and those beside them
		{48, 229376}, {49, 229376}, {50, 229376}, {65024, 8355840}, {65025, 8355840}, {65026, 8355840}, {999999, 32768000}, {1000000, 32768000}, {1000001, 32768000}, {2147395599, 1518469121}, {2147395600, 1518469117}, {2147395601, 1518469118},
		{1<<28 - 1, 1 << 29}, {1 << 28, 1 << 29}, {1<<28 + 1, 1 << 29}, {1<<29 - 1, 759250124}, {1 << 29, 759250126}, {1<<30 - 1, 1 << 30}, {1 << 30, 1 << 30}, {1<<30 + 1, 1<<30 + 1}, {3 << 29, 1315059792}, {wordMax - 1, 1518500251}, {wordMax, 1518500251},
		// 0, and below
		{0, 0}, {-1, 0}, {-2, -1}, {-3, -1}, {-4, -2}, {-1 << 30, -619925131}, {-1<<30 - 1, -619925133}, {wordMin, -1518500250}, {wordMin + 1, -1518500249},
	} {
		if got := root.Sqrt(c.x); got != c.want {
			t.Errorf("Sqrt(%d) = %d, want %d", c.x, got, c.want)
		}
	}
}

func TestSqrtIsWhatIsReckoned(t *testing.T) {
	for _, x := range words() {
		z, h := rsqrt(int64(x), four)
		if got, want := root.Sqrt(x), scale(int64(x), z, h); int64(got) != want {
			t.Fatalf("Sqrt(%d) = %d, want %d", x, got, want)
		}
	}
}

// P8.6

func TestRecipExamples(t *testing.T) {
	checkPairs(t, "Recip", root.Recip, []pair{
		{1, 1 << 30, 30}, {2, 1 << 30, 29}, {3, 715827882, 29}, {4, 1 << 30, 28}, {5, 858993459, 28}, {6, 715827882, 28}, {7, 613566756, 28}, {8, 1 << 30, 27}, {9, 954437176, 27}, {15, 572662306, 27}, {16, 1 << 30, 26}, {17, 1010580541, 26},
		{100, 687194767, 24}, {1000, 549755814, 21}, {65535, 536879104, 15}, {65536, 1 << 30, 14}, {65537, 1073725440, 14},
		{1<<28 - 1, 536870914, 3}, {1 << 28, 1 << 30, 2}, {1<<28 + 1, 1073741820, 2}, {1<<29 - 1, 536870913, 2}, {1 << 29, 1 << 30, 1}, {1<<29 + 1, 1073741823, 1}, {3 << 28, 715827882, 1}, {759250125, 759250125, 1},
		{1<<30 - 1, 1 << 29, 1}, {1 << 30, 1 << 30, 0}, {1<<30 + 1, 1 << 30, 0}, {3 << 29, 715827882, 0}, {wordMax - 1, 1 << 29, 0}, {wordMax, 1 << 29, 0},
		// 0, and below
		{0, wordMax, 31}, {-1, 1 << 29, -1}, {-2, 1 << 29, -1}, {-4, 1 << 29, -1}, {-1 << 30, 715827882, -1}, {-1<<30 - 1, 715827883, -1}, {wordMin, 1 << 30, -1}, {wordMin + 1, 1 << 30, -1},
	})
}

func TestRecipIsWhatIsReckoned(t *testing.T) {
	for _, x := range words() {
		wantZ, wantH := recip(int64(x), four)
		if z, h := root.Recip(x); int64(z) != wantZ || int64(h) != wantH {
			t.Fatalf("Recip(%d) = %d, %d, want %d, %d", x, z, h, wantZ, wantH)
		}
	}
}

// Words of which z changes with each step; of the last two also with a fifth one.
func TestRecipHasFourSteps(t *testing.T) {
	checkSteps(t, "Recip", root.Recip, recip, []behind{
		{1, [6]int64{1027678300, 1071765699, 1073738186, 1 << 30, 1 << 30, 1 << 30}},
		{wordMax, [6]int64{490807389, 532918662, 536841817, 536870910, 1 << 29, 1 << 29}},
		{-1, [6]int64{490807389, 532918662, 536841817, 536870910, 1 << 29, 1 << 29}},
		{0, [6]int64{1564549212, wordMax, wordMax, wordMax, wordMax, wordMax}},
		{1063985532, [6]int64{500563680, 538656207, 541775619, 541793787, 541793788, 541793789}},
		{2127740993, [6]int64{500678716, 538723716, 541834308, 541852371, 541852372, 541852373}},
	})
}

func TestSecondOfRecipIsOneLessThanNoughts(t *testing.T) {
	for _, x := range words() {
		want := noughts(int64(x)) - 1
		if _, h := root.Recip(x); int64(h) != want {
			t.Fatalf("Recip(%d) = _, %d, want %d", x, h, want)
		}
	}
}

// What follows is held without bound.

func number(x int64) *big.Int { return big.NewInt(x) }

// times is the product of all.
func times(l ...*big.Int) *big.Int {
	p := number(1)
	for _, x := range l {
		p.Mul(p, x)
	}
	return p
}

// by2 is x times 2^n.
func by2(x *big.Int, n int32) *big.Int { return new(big.Int).Lsh(x, uint(n)) }

// nearer holds that x is nearer to y than bound.
func nearer(t *testing.T, what string, of int32, x, y, bound *big.Int) {
	t.Helper()
	if d := new(big.Int).Sub(x, y); d.CmpAbs(bound) >= 0 {
		t.Fatalf("%s of %d: %s, which is %s from %s", what, of, x, d, y)
	}
}

// P8.3

func TestRsqrtIsTrue(t *testing.T) {
	want, bound := by2(number(1), 90), by2(number(1), 66)
	for _, x := range above() {
		z, h := root.Rsqrt(x)
		if h < 0 || h > 15 {
			t.Fatalf("Rsqrt(%d) = %d, %d", x, z, h)
		}
		nearer(t, "Rsqrt", x, by2(times(number(int64(x)), number(int64(z)), number(int64(z))), 2*h), want, bound)
	}
}

// P8.4

func TestSqrtIsTheRoot(t *testing.T) {
	for _, x := range above() {
		s := number(int64(root.Sqrt(x)))
		if s.Sign() < 0 {
			t.Fatalf("Sqrt(%d) = %s", x, s)
		}
		bound := number(64*int64(x) + 1<<33)
		nearer(t, "Sqrt", x, times(s, s), by2(number(int64(x)), 30), bound)
	}
}

// P8.7

func TestRecipIsTrue(t *testing.T) {
	want, bound := by2(number(1), 60), by2(number(1), 34)
	for _, x := range above() {
		z, h := root.Recip(x)
		if h < 0 || h > 30 {
			t.Fatalf("Recip(%d) = %d, %d", x, z, h)
		}
		nearer(t, "Recip", x, by2(times(number(int64(x)), number(int64(z))), h), want, bound)
	}
}

// P8.5

func TestLevelsAreFromAQuarterToOne(t *testing.T) {
	for _, x := range above() {
		u, h := root.Level(x)
		if u < 1<<28 || u >= 1<<30 || h < 0 || h > 15 {
			t.Fatalf("Level(%d) = %d, %d", x, u, h)
		}
		// 4u is x times 4^h, but for what two places down loses.
		if back := int64(x) * power(2*int64(h)); back/4 != int64(u) {
			t.Fatalf("Level(%d) = %d, %d: brought up it is %d", x, u, h, back)
		}
	}
}

// The chapter's examples.

func TestExamples(t *testing.T) {
	checkPairs(t, "Level", root.Level, []pair{{1 << 30, 1 << 28, 0}, {1, 1 << 28, 15}})
}
