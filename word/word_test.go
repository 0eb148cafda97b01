package word

import (
	"bytes"
	"math"
	"math/big"
	"testing"

	"astrolabe/api"
)

const (
	wordMin = -1 << 31
	wordMax = 1<<31 - 1
)

// edges: numbers at and around each power of 2, and the ends of 64 bits.
func edges() []int64 {
	l := []int64{math.MinInt64, math.MinInt64 + 1, math.MaxInt64 - 1, math.MaxInt64, 0x0123456789abcdef, -0x0123456789abcdef}
	for n := range 63 {
		p := int64(1) << n
		l = append(l, p-1, p, p+1, -p-1, -p, -p+1)
	}
	return l
}

// words: the words among the edges.
func words() []int32 {
	l := []int32{wordMin, wordMax, 0x01020304, 0x7f80ff01, -0x01020304}
	for _, x := range edges() {
		if x >= wordMin && x <= wordMax {
			l = append(l, int32(x))
		}
	}
	return l
}

// signed is the number of n bits, with a sign, that is x modulo 2^n; reckoned without shifts.
func signed(x *big.Int, n uint) int64 {
	m := new(big.Int).Exp(big.NewInt(2), big.NewInt(int64(n)), nil)
	half := new(big.Int).Div(m, big.NewInt(2))
	r := new(big.Int).Mod(x, m)
	if r.Cmp(half) >= 0 {
		r.Sub(r, m)
	}
	return r.Int64()
}

// P1.1

func TestLowExamples(t *testing.T) {
	for _, c := range []struct {
		x    int64
		want int32
	}{
		{0, 0}, {5, 5}, {-1, -1},
		{1 << 31, wordMin}, {1<<31 - 1, wordMax}, {1<<31 + 1, wordMin + 1},
		{-1 << 31, wordMin}, {-1<<31 - 1, wordMax}, {-1<<31 + 1, wordMin + 1},
		{1 << 32, 0}, {1<<32 - 1, -1}, {1<<32 + 1, 1}, {-1 << 32, 0}, {-1<<32 - 1, -1},
		{math.MaxInt64, -1}, {math.MinInt64, 0},
	} {
		if got := Low(c.x); got != c.want {
			t.Errorf("Low(%d) = %d, want %d", c.x, got, c.want)
		}
	}
}

func TestHighExamples(t *testing.T) {
	for _, c := range []struct {
		x    int64
		want int32
	}{
		{0, 0}, {5, 0}, {-1, -1},
		{1 << 31, 0}, {-1 << 31, -1}, {-1<<31 - 1, -1},
		{1<<32 - 1, 0}, {1 << 32, 1}, {1<<32 + 1, 1},
		{-1<<32 + 1, -1}, {-1 << 32, -1}, {-1<<32 - 1, -2},
		{math.MaxInt64, wordMax}, {math.MinInt64, wordMin},
	} {
		if got := High(c.x); got != c.want {
			t.Errorf("High(%d) = %d, want %d", c.x, got, c.want)
		}
	}
}

func TestLowAndHighAgainstWholeNumbers(t *testing.T) {
	m := big.NewInt(1 << 32)
	for _, x := range edges() {
		b := big.NewInt(x)
		if got, want := int64(Low(x)), signed(b, 32); got != want {
			t.Errorf("Low(%d) = %d, want %d", x, got, want)
		}
		// Div rounds down where what is divided by is above 0.
		if got, want := int64(High(x)), new(big.Int).Div(b, m).Int64(); got != want {
			t.Errorf("High(%d) = %d, want %d", x, got, want)
		}
	}
}

func TestJoinExamples(t *testing.T) {
	for _, c := range []struct {
		high, low int32
		want      int64
	}{
		{0, 0, 0}, {0, 1, 1}, {0, -1, 1<<32 - 1}, {0, wordMin, 1 << 31}, {0, wordMax, 1<<31 - 1},
		{1, 0, 1 << 32}, {1, -1, 1<<33 - 1}, {-1, 0, -1 << 32}, {-1, -1, -1}, {-1, wordMin, -1 << 31},
		{wordMax, -1, math.MaxInt64}, {wordMin, 0, math.MinInt64}, {wordMin, -1, math.MinInt64 + 1<<32 - 1},
	} {
		if got := Join(c.high, c.low); got != c.want {
			t.Errorf("Join(%d, %d) = %d, want %d", c.high, c.low, got, c.want)
		}
	}
}

func TestJoinAgainstWholeNumbers(t *testing.T) {
	m := big.NewInt(1 << 32)
	for _, high := range words() {
		for _, low := range words() {
			want := new(big.Int).Mul(big.NewInt(int64(high)), m)
			want.Add(want, new(big.Int).Mod(big.NewInt(int64(low)), m))
			if got := Join(high, low); big.NewInt(got).Cmp(want) != 0 {
				t.Errorf("Join(%d, %d) = %d, want %s", high, low, got, want)
			}
		}
	}
}

// P1.2

func TestHalfExamples(t *testing.T) {
	for _, c := range []struct{ x, want int32 }{
		{0, 0}, {1, 1}, {-1, -1},
		{32767, 32767}, {32768, -32768}, {32769, -32767}, {-32768, -32768}, {-32769, 32767},
		{65535, -1}, {65536, 0}, {65537, 1}, {-65536, 0}, {-65537, -1},
		{wordMin, 0}, {wordMax, -1}, {0x12348765, 0x8765 - 0x10000},
	} {
		if got := Half(c.x); got != c.want {
			t.Errorf("Half(%d) = %d, want %d", c.x, got, c.want)
		}
	}
}

func TestHalfAgainstWholeNumbers(t *testing.T) {
	for _, x := range words() {
		if got, want := int64(Half(x)), signed(big.NewInt(int64(x)), 16); got != want {
			t.Errorf("Half(%d) = %d, want %d", x, got, want)
		}
	}
}

func TestPairExamples(t *testing.T) {
	for _, c := range []struct {
		high, low byte
		want      int32
	}{
		{0, 0, 0}, {0, 1, 1}, {1, 0, 256}, {1, 2, 258},
		{0, 128, 128}, {0, 255, 255}, {127, 255, 32767},
		{128, 0, -32768}, {128, 128, -32640}, {255, 0, -256}, {255, 254, -2}, {255, 255, -1},
	} {
		if got := Pair(c.high, c.low); got != c.want {
			t.Errorf("Pair(%d, %d) = %d, want %d", c.high, c.low, got, c.want)
		}
	}
}

func TestPairOfAllBytes(t *testing.T) {
	for high := range 256 {
		for low := range 256 {
			want := 256*high + low
			if want >= 32768 {
				want -= 65536
			}
			if got := Pair(byte(high), byte(low)); int(got) != want {
				t.Fatalf("Pair(%d, %d) = %d, want %d", high, low, got, want)
			}
		}
	}
}

// P1.3

func TestBytesAndFromExamples(t *testing.T) {
	for _, c := range []struct {
		x int32
		b []byte
	}{
		{0, []byte{0, 0, 0, 0}}, {1, []byte{0, 0, 0, 1}}, {258, []byte{0, 0, 1, 2}},
		{0x01020304, []byte{1, 2, 3, 4}}, {-1, []byte{255, 255, 255, 255}}, {-2, []byte{255, 255, 255, 254}},
		{wordMax, []byte{127, 255, 255, 255}}, {wordMin, []byte{128, 0, 0, 0}}, {wordMin + 1, []byte{128, 0, 0, 1}},
		{0x00808080, []byte{0, 128, 128, 128}}, {0x00000080, []byte{0, 0, 0, 128}}, {-0x7f7f7f80, []byte{128, 128, 128, 128}},
	} {
		if got := Bytes(c.x); !bytes.Equal(got, c.b) {
			t.Errorf("Bytes(%d) = %v, want %v", c.x, got, c.b)
		}
		if got, e := From(c.b); got != c.x || e != api.OK {
			t.Errorf("From(%v) = %d, %v, want %d", c.b, got, e, c.x)
		}
	}
}

func TestFromOfWrongLengths(t *testing.T) {
	for n := range 12 {
		want := api.OK
		switch {
		case n < 4:
			want = api.ErrShort
		case n > 4:
			want = api.ErrLong
		}
		// Ones all through: a word beside an error would not be 0.
		x, e := From(bytes.Repeat([]byte{255}, n))
		if e != want {
			t.Errorf("From of %d bytes: %v, want %v", n, e, want)
		}
		if e != api.OK && x != 0 {
			t.Errorf("From of %d bytes: the word %d beside an error", n, x)
		}
	}
	for _, b := range [][]byte{nil, {}} {
		if x, e := From(b); x != 0 || e != api.ErrShort {
			t.Errorf("From of none: %d, %v", x, e)
		}
	}
	if x, e := From(make([]byte, 1<<16)); x != 0 || e != api.ErrLong {
		t.Errorf("From of many: %d, %v", x, e)
	}
}

func TestFromCountsBytesNotRoom(t *testing.T) {
	room := []byte{1, 2, 3, 4, 5, 6, 7, 8}
	if x, e := From(room[:3]); x != 0 || e != api.ErrShort {
		t.Errorf("three of eight: %d, %v", x, e)
	}
	if x, e := From(room[2:6]); x != 0x03040506 || e != api.OK {
		t.Errorf("four of eight: %d, %v", x, e)
	}
}

func TestBytesAreNewMemory(t *testing.T) {
	a, b := Bytes(0x01020304), Bytes(0x01020304)
	if len(a) != 4 || len(b) != 4 {
		t.Fatalf("lengths %d and %d, want 4", len(a), len(b))
	}
	clear(a)
	if !bytes.Equal(b, []byte{1, 2, 3, 4}) || !bytes.Equal(Bytes(0x01020304), []byte{1, 2, 3, 4}) {
		t.Error("an answer that was changed changed another one")
	}
}

func TestFromLeavesBytesAlone(t *testing.T) {
	b := []byte{128, 2, 3, 4}
	From(b)
	if !bytes.Equal(b, []byte{128, 2, 3, 4}) {
		t.Errorf("From changed what it was handed: %v", b)
	}
}

// P1.4

func TestApartAndTogether(t *testing.T) {
	for _, x := range edges() {
		if got := Join(High(x), Low(x)); got != x {
			t.Errorf("%d, apart and together: %d", x, got)
		}
	}
	for _, high := range words() {
		for _, low := range words() {
			x := Join(high, low)
			if High(x) != high || Low(x) != low {
				t.Errorf("(%d, %d), together and apart: (%d, %d)", high, low, High(x), Low(x))
			}
		}
	}
}

func TestWordIsThatOfItsBytes(t *testing.T) {
	check := func(x int32) {
		if got, e := From(Bytes(x)); got != x || e != api.OK {
			t.Errorf("From(Bytes(%d)) = %d, %v", x, got, e)
		}
	}
	for _, x := range words() {
		check(x)
	}
	// A stride without a common part with 2^32 meets all kinds of bytes.
	x := int32(0)
	for range 1 << 16 {
		check(x)
		x += 0x1e3779b1
	}
}

func TestBytesAreThoseOfTheirWord(t *testing.T) {
	for place := range 4 {
		for value := range 256 {
			b := []byte{0x81, 0x42, 0xc3, 0x24}
			b[place] = byte(value)
			x, e := From(b)
			if e != api.OK || !bytes.Equal(Bytes(x), b) {
				t.Errorf("Bytes(From(%v)) = %v, %v", b, Bytes(x), e)
			}
		}
	}
}

func TestPartsOfWordsAgree(t *testing.T) {
	for _, x := range words() {
		b := Bytes(x)
		if got := Pair(b[2], b[3]); got != Half(x) {
			t.Errorf("Pair of the lowest bytes of %d = %d, want %d", x, got, Half(x))
		}
	}
}
