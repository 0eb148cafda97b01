package crc_test

import (
	"bytes"
	"slices"
	"testing"

	"astrolabe/api"
	"astrolabe/crc"
)

const (
	sums    = 1 << 16 // how many sums there are
	most    = sums - 1
	wordMin = -1 << 31
	wordMax = 1<<31 - 1
)

// The reckoning of the tests is the chapter's, doubling by doubling, by sums, products, quotients and rests: without a table, and without shifts.

// xor is a xor b, of 16 bits, bit by bit.
func xor(a, b int) int {
	x := 0
	for p := 1; p < sums; p *= 2 {
		if a/p%2 != b/p%2 {
			x += p
		}
	}
	return x
}

// step is a byte's step on a sum.
func step(c, b int) int {
	c = xor(c, 256*b)
	for range 8 {
		high := c / 32768
		c = 2 * c % sums
		if high == 1 {
			c = xor(c, 4129)
		}
	}
	return c
}

// steps are the steps of byte 0 on all sums.
func steps() []int {
	l := make([]int, sums)
	for c := range l {
		l[c] = step(c, 0)
	}
	return l
}

// reckoned is the sum of bytes.
func reckoned(b []byte) int {
	c := most
	for _, x := range b {
		c = step(c, int(x))
	}
	return c
}

// behind is a sum as two bytes.
func behind(c int) []byte { return []byte{byte(c / 256), byte(c % 256)} }

// some are n bytes without a pattern.
func some(n int) []byte {
	b := make([]byte, n)
	x := uint32(1)
	for i := range b {
		x = x*1103515245 + 12345
		b[i] = byte(x >> 24)
	}
	return b
}

// texts are of no bytes, of all single ones, of all lengths up to 70, of the lengths of samples and frames, and of many bytes.
func texts() [][]byte {
	l := [][]byte{nil, {}, []byte("123456789"), []byte("astrolabe")}
	for x := range 256 {
		l = append(l, []byte{byte(x)})
	}
	for n := range 71 {
		l = append(l, some(n), make([]byte, n), bytes.Repeat([]byte{255}, n), some(2 * n)[n:])
	}
	for _, n := range []int{127, 128, 255, 256, 257, 4099} {
		l = append(l, some(n), make([]byte, n))
	}
	return l
}

// turned is b, in which the 16 bits of a burst, the highest one first, turn those from a place on; what is beyond b doesn't count.
func turned(b []byte, at int, bits int) []byte {
	to := slices.Clone(b)
	for i := range 16 {
		place := at + i
		if place >= 8*len(to) {
			break
		}
		if bits&(32768>>i) != 0 {
			to[place/8] ^= 128 >> (place % 8)
		}
	}
	return to
}

// checkTold holds that Open tells ErrSum, and answers nothing beside it.
func checkTold(t *testing.T, b []byte) {
	t.Helper()
	if got, e := crc.Open(b); e != api.ErrSum || len(got) != 0 {
		t.Fatalf("Open(%v) = %v, %v, want ErrSum", b, got, e)
	}
}

// checkOpened holds that Open answers what stands ahead of the sum.
func checkOpened(t *testing.T, b, want []byte) {
	t.Helper()
	if got, e := crc.Open(b); e != api.OK || !bytes.Equal(got, want) {
		t.Fatalf("Open(%v) = %v, %v, want %v", b, got, e, want)
	}
}

// P11.1

func TestStepExamples(t *testing.T) {
	for _, c := range []struct {
		c    int32
		b    byte
		want int32
	}{
		{0, 0, 0}, {0, 1, 4129}, {0, 2, 8258}, {0, 16, 4657}, {0, 128, 37256}, {0, 255, 7920},
		{1, 0, 256}, {2, 0, 512}, {128, 0, 32768}, {256, 0, 4129}, {4096, 0, 4657}, {32768, 0, 37256},
		{65535, 0, 57840}, {65535, 255, 65280}, {255, 255, 57840}, {65280, 255, 0},
		{4660, 86, 15424}, {43981, 239, 50496}, {32767, 1, 24665}, {4129, 16, 8448},
		{-1, 0, 57840}, {-1, 255, 65280}, {-65536, 1, 4129}, {65536, 1, 4129}, {-32768, 0, 37256}, {65537, 0, 256},
		{wordMin, 2, 8258}, {wordMin + 1, 0, 256}, {wordMax, 255, 65280}, {0x12348000, 0, 37256},
	} {
		if got := crc.Step(c.c, c.b); got != c.want {
			t.Errorf("Step(%d, %d) = %d, want %d", c.c, c.b, got, c.want)
		}
	}
}

func TestStepOfEachByteOnEachBit(t *testing.T) {
	for b := range 256 {
		for c := 1; c < sums; c *= 2 {
			if got, want := int(crc.Step(int32(c), byte(b))), step(c, b); got != want {
				t.Errorf("Step(%d, %d) = %d, want %d", c, b, got, want)
			}
		}
	}
}

func TestStepOfEachByteOnEachSum(t *testing.T) {
	all := steps()
	for c := range sums {
		for b := range 256 {
			// A byte counts just as a sum's higher one: the reckoning's own xor is slow.
			if got, want := int(crc.Step(int32(c), byte(b))), all[c^b<<8]; got != want {
				t.Fatalf("Step(%d, %d) = %d, want %d", c, b, got, want)
			}
		}
	}
}

func TestStepTakesTheLowest16Bits(t *testing.T) {
	all := steps()
	highs := []int64{-32768, -32767, -256, -2, -1, 1, 2, 3, 255, 256, 4129, 16384, 32767}
	for n := range 15 {
		highs = append(highs, 1<<n, -1<<n)
	}
	for _, high := range highs {
		for low := range sums {
			c := int32(high*sums + int64(low))
			if got, want := int(crc.Step(c, 0)), all[low]; got != want {
				t.Fatalf("Step(%d, 0) = %d, want %d", c, got, want)
			}
			if got, want := crc.Step(c, 165), crc.Step(int32(low), 165); got != want {
				t.Fatalf("Step(%d, 165) = %d, want %d", c, got, want)
			}
		}
	}
}

func TestOfExamples(t *testing.T) {
	for _, c := range []struct {
		b    []byte
		want int32
	}{
		{nil, 65535}, {[]byte{}, 65535},
		{[]byte{0}, 57840}, {[]byte{1}, 61905}, {[]byte{128}, 28792}, {[]byte{255}, 65280},
		{[]byte("A"), 47381}, {[]byte("a"), 40311}, {[]byte{0, 0}, 7439}, {[]byte{255, 255}, 0},
		{[]byte("123456789"), 10673}, {[]byte("12345678"), 41259}, {[]byte("1234567890"), 12824}, {[]byte("astrolabe"), 28579},
		{make([]byte, 18), 17835}, {bytes.Repeat([]byte{255}, 18), 65},
		{append([]byte{1}, make([]byte, 29)...), 9050}, {bytes.Repeat([]byte("A"), 256), 59915},
		{make([]byte, 65536), 7439}, {bytes.Repeat([]byte{255}, 65537), 7920},
		{some(1000), 50773}, {some(100003), 56120},
	} {
		if got := crc.Of(c.b); got != c.want {
			t.Errorf("Of %d bytes, %.20q: %d, want %d", len(c.b), c.b, got, c.want)
		}
	}
}

func TestOfAgainstTheChapter(t *testing.T) {
	for _, b := range texts() {
		if got, want := int(crc.Of(b)), reckoned(b); got != want {
			t.Errorf("Of(%.20v), of %d bytes = %d, want %d", b, len(b), got, want)
		}
	}
}

func TestOfTwoBytes(t *testing.T) {
	all := steps()
	for x := range 256 {
		first := all[most^x<<8]
		for y := range 256 {
			if got, want := int(crc.Of([]byte{byte(x), byte(y)})), all[first^y<<8]; got != want {
				t.Fatalf("Of(%d, %d) = %d, want %d", x, y, got, want)
			}
		}
	}
}

func TestSumsGoOn(t *testing.T) {
	for _, b := range texts() {
		if len(b) > 300 {
			continue
		}
		for n := range len(b) + 1 {
			c := crc.Of(b[:n])
			for _, x := range b[n:] {
				c = crc.Step(c, x)
			}
			if want := crc.Of(b); c != want {
				t.Fatalf("%v from %d on: %d, want %d", b, n, c, want)
			}
		}
	}
}

func TestNothingIsKept(t *testing.T) {
	first := crc.Of([]byte("123456789"))
	crc.Step(first, 5)
	crc.Of(some(100))
	crc.Seal(some(10))
	crc.Open([]byte{1, 2, 3})
	if got := crc.Of([]byte("123456789")); got != first || got != 10673 {
		t.Errorf("the sum is %d, and then %d", first, got)
	}
}

// P11.2

func TestSealExamples(t *testing.T) {
	for _, c := range []struct{ b, want []byte }{
		{nil, []byte{255, 255}}, {[]byte{}, []byte{255, 255}},
		{[]byte{0}, []byte{0, 225, 240}}, {[]byte{1}, []byte{1, 241, 209}}, {[]byte{255}, []byte{255, 255, 0}},
		{[]byte{255, 255}, []byte{255, 255, 0, 0}},
		{[]byte("123456789"), []byte("123456789\x29\xb1")},
		{bytes.Repeat([]byte{255}, 18), append(bytes.Repeat([]byte{255}, 18), 0, 65)},
	} {
		if got := crc.Seal(c.b); !bytes.Equal(got, c.want) {
			t.Errorf("Seal(%v) = %v, want %v", c.b, got, c.want)
		}
		checkOpened(t, c.want, c.b)
	}
}

func TestSealAndOpen(t *testing.T) {
	for _, b := range append(texts(), some(100003)) {
		want := append(slices.Clone(b), behind(reckoned(b))...)
		got := crc.Seal(b)
		if !bytes.Equal(got, want) {
			t.Fatalf("Seal of %d bytes, %.20v: %.20v, want %.20v", len(b), b, got, want)
		}
		checkOpened(t, got, b)
	}
}

func TestSealLeavesBytesAlone(t *testing.T) {
	room := []byte{1, 2, 3, 4, 5, 6}
	first := crc.Seal(room[:3])
	if !bytes.Equal(room, []byte{1, 2, 3, 4, 5, 6}) {
		t.Errorf("what was handed in, and what stands behind it, is now %v", room)
	}
	want := slices.Clone(first)
	clear(room)
	if !bytes.Equal(first, want) {
		t.Error("what was handed in changed an answer")
	}
	second := crc.Seal([]byte{1, 2, 3})
	clear(first)
	if !bytes.Equal(second, want) || !bytes.Equal(crc.Seal([]byte{1, 2, 3}), want) {
		t.Error("an answer that was changed changed another one")
	}
	none := crc.Seal(nil)
	clear(none)
	if got := crc.Seal(nil); !bytes.Equal(got, []byte{255, 255}) {
		t.Errorf("no bytes, sealed once more: %v", got)
	}
}

func TestOpenLeavesBytesAlone(t *testing.T) {
	sealed := crc.Seal([]byte{1, 2, 3})
	same := slices.Clone(sealed)
	got, e := crc.Open(sealed)
	if e != api.OK || !bytes.Equal(sealed, same) {
		t.Fatalf("Open made %v of %v: %v", sealed, same, e)
	}
	clear(got)
	_ = append(got, 9, 9, 9)
	if !bytes.Equal(sealed, same) {
		t.Errorf("what was answered changed what was handed in: %v, before %v", sealed, same)
	}
	got, _ = crc.Open(sealed)
	clear(sealed)
	if !bytes.Equal(got, []byte{1, 2, 3}) {
		t.Errorf("what was handed in changed an answer: %v", got)
	}
	empty := []byte{255, 255}
	none, _ := crc.Open(empty)
	_ = append(none, 7, 7)
	if !bytes.Equal(empty, []byte{255, 255}) {
		t.Errorf("no bytes that were answered, and more, changed what was handed in: %v", empty)
	}
	wrong := []byte{1, 2, 3, 4}
	if _, e := crc.Open(wrong); e != api.ErrSum || !bytes.Equal(wrong, []byte{1, 2, 3, 4}) {
		t.Errorf("Open made %v of bytes that are not right: %v", wrong, e)
	}
}

func TestOpenOfTooFew(t *testing.T) {
	few := [][]byte{nil, {}}
	for x := range 256 {
		few = append(few, []byte{byte(x)})
	}
	for _, b := range append(few, crc.Seal([]byte{5})[:1], make([]byte, 1, 8)) {
		if got, e := crc.Open(b); e != api.ErrShort || len(got) != 0 {
			t.Errorf("Open(%v) = %v, %v, want ErrShort", b, got, e)
		}
	}
}

func TestOpenCountsBytesNotRoom(t *testing.T) {
	room := []byte("123456789\x29\xb1\x07") // a 0 behind sealed bytes would be right
	checkOpened(t, room[:11], []byte("123456789"))
	checkTold(t, room[:10])
	checkTold(t, room)
	if got, e := crc.Open(room[:1]); e != api.ErrShort || len(got) != 0 {
		t.Errorf("one of twelve: %v, %v", got, e)
	}
}

func TestOpenOfAllTwoBytes(t *testing.T) {
	for c := range sums {
		if b := behind(c); c == most {
			checkOpened(t, b, nil)
		} else {
			checkTold(t, b)
		}
	}
}

func TestOpenOfAllTwoBytesBehindOthers(t *testing.T) {
	for _, ahead := range [][]byte{{0}, {1}, {128}, {255}, {255, 255}, []byte("123456789"), some(18)} {
		right := reckoned(ahead)
		for c := range sums {
			if b := append(slices.Clone(ahead), behind(c)...); c == right {
				checkOpened(t, b, ahead)
			} else {
				checkTold(t, b)
			}
		}
	}
}

func TestOpenWithOneBitTurned(t *testing.T) {
	for _, b := range texts() {
		if len(b) > 128 {
			continue
		}
		sealed := crc.Seal(b)
		for at := range 8 * len(sealed) {
			checkTold(t, turned(sealed, at, 32768))
		}
	}
}

func TestOpenWithSumsThatAreNot(t *testing.T) {
	for _, b := range texts() {
		if len(b) == 0 {
			continue
		}
		s := behind(reckoned(b))
		if s[0] != s[1] {
			checkTold(t, append(slices.Clone(b), s[1], s[0]))
		}
		checkTold(t, append(slices.Clone(b), 255-s[0], 255-s[1]))
		checkTold(t, append(crc.Seal(b), 1))
		if s[1] != 0 { // else the last byte adds nothing to what is left
			checkTold(t, crc.Seal(b)[:len(b)+1])
		}
	}
}

// P11.3

func TestAllBursts(t *testing.T) {
	for n := range 5 {
		for _, b := range [][]byte{make([]byte, n), some(n)} {
			sealed := crc.Seal(b)
			for at := range 8 * len(sealed) {
				// A burst that begins later is one of another place.
				for bits := 32768; bits < sums; bits++ {
					checkTold(t, turned(sealed, at, bits))
				}
			}
		}
	}
}

func TestBurstsOfEachLength(t *testing.T) {
	for _, b := range [][]byte{some(18), make([]byte, 30), bytes.Repeat([]byte{255}, 30), []byte("123456789"), some(255)} {
		sealed := crc.Seal(b)
		for at := range 8 * len(sealed) {
			for long := 1; long <= 16; long++ {
				ends := 32768 | 32768>>(long-1)
				whole := sums - sums>>long
				for _, bits := range []int{ends, whole, ends | whole&0x5555, ends | whole&4129} {
					checkTold(t, turned(sealed, at, bits))
				}
			}
		}
	}
}

func TestBurstsAtTheEnd(t *testing.T) {
	for _, b := range [][]byte{nil, {7}, some(18), some(30), some(1000)} {
		sealed := crc.Seal(b)
		for back := 1; back <= 16; back++ {
			at := 8*len(sealed) - back
			for bits := 1; bits < 1<<back; bits++ {
				checkTold(t, turned(sealed, at, bits<<(16-back)))
			}
		}
	}
}

// TestSeventeenBits: what is turned within 17 may be right: the sum of other bytes, and no less so.
func TestSeventeenBits(t *testing.T) {
	b := some(18)
	sealed := crc.Seal(b)
	for at := range 8*len(sealed) - 16 {
		other := turned(turned(sealed, at, 32768|4129>>1), at+16, 32768)
		checkOpened(t, other, other[:len(b)])
	}
}

// P11.4

func TestNothingIsLeft(t *testing.T) {
	for _, b := range append(texts(), some(65536), some(100003)) {
		if left := crc.Of(crc.Seal(b)); left != 0 {
			t.Errorf("%d bytes, %.20v, sealed: %d is left", len(b), b, left)
		}
		if left := crc.Of(crc.Seal(crc.Seal(b))); left != 0 {
			t.Errorf("%d bytes, %.20v, sealed twice: %d is left", len(b), b, left)
		}
	}
}

// P11.5

func TestThreeTextsTogether(t *testing.T) {
	for _, n := range []int{0, 1, 2, 3, 4, 9, 18, 20, 30, 32, 64, 255, 256, 1000} {
		long := some(16 * n)
		for i := range 12 {
			a, b, c := long[i*n:][:n], long[(i+1)*n:][:n], long[(i+3)*n:][:n]
			checkTogether(t, a, b, c)
			checkTogether(t, a, b, make([]byte, n))
			checkTogether(t, a, bytes.Repeat([]byte{255}, n), c)
			checkTogether(t, a, a, c)
		}
	}
}

func TestThreeSingleBytesTogether(t *testing.T) {
	for a := range 256 {
		for b := range 256 {
			for c := 1; c < 256; c *= 2 {
				checkTogether(t, []byte{byte(a)}, []byte{byte(b)}, []byte{byte(c)})
			}
		}
	}
}

// checkTogether holds that the sum of three texts, xored, is that of their sums.
func checkTogether(t *testing.T, a, b, c []byte) {
	t.Helper()
	x := make([]byte, len(a))
	for i := range x {
		x[i] = a[i] ^ b[i] ^ c[i]
	}
	if got, want := crc.Of(x), crc.Of(a)^crc.Of(b)^crc.Of(c); got != want {
		t.Fatalf("%v, %v and %v together: %d, want %d", a, b, c, got, want)
	}
}

// The chapter's example.

func TestExample(t *testing.T) {
	if got := crc.Of([]byte("123456789")); got != 0x29b1 {
		t.Errorf("the sum of 123456789 is %d, want 10673 (0x29b1)", got)
	}
}
