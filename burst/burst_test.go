package burst_test

import (
	"bytes"
	"math"
	"slices"
	"strconv"
	"testing"

	"astrolabe/burst"
)

// The reckoning of the tests is the chapter's, place by place: bits by quotients and rests, without shifts and without xor.

// weight is what the bit at a place weighs in its byte.
func weight(place int) int {
	w := 128
	for range place % 8 {
		w /= 2
	}
	return w
}

// bit is the bit of a text at a place that it has.
func bit(b []byte, place int) int { return int(b[place/8]) / weight(place) % 2 }

// turn turns the bit of a text at a place that it has.
func turn(b []byte, place int) {
	if bit(b, place) == 1 {
		b[place/8] -= byte(weight(place))
	} else {
		b[place/8] += byte(weight(place))
	}
}

// turned is a text with the bits at some places turned.
func turned(b []byte, places ...int) []byte {
	to := slices.Clone(b)
	for _, place := range places {
		turn(to, place)
	}
	return to
}

// reckoned are the places at which two texts of one length differ.
func reckoned(a, b []byte) []int {
	var l []int
	for place := range 8 * len(a) {
		if bit(a, place) != bit(b, place) {
			l = append(l, place)
		}
	}
	return l
}

// span is 0 of no places, else 1, and how far the last one is from the first one.
func span(places []int) int {
	if len(places) == 0 {
		return 0
	}
	return 1 + slices.Max(places) - slices.Min(places)
}

// chosen tells whether of sixteen bits, the highest one first, number i is 1.
func chosen(bits uint16, i int) bool {
	w := 32768
	for range i {
		w /= 2
	}
	return int(bits)/w%2 == 1
}

// hit are the places of n bytes that bits turn, from at on.
func hit(n int, at int, bits uint16) []int {
	var l []int
	for place := range 8 * n {
		for i := range 16 {
			if place-i == at && chosen(bits, i) {
				l = append(l, place)
			}
		}
	}
	return l
}

// some are n bytes without a pattern.
func some(n int) []byte {
	b := make([]byte, n)
	x := uint32(1)
	for i := range b {
		x = x*1103515245 + 12345
		b[i] = byte(x >> 24)
	}
	return b
}

// kinds are texts of n bytes: noughts, ones, both by turns, and such without a pattern.
func kinds(n int) [][]byte {
	return [][]byte{make([]byte, n), bytes.Repeat([]byte{255}, n), bytes.Repeat([]byte{0x5a}, n), some(n), some(2 * n)[n:]}
}

// contrary is a text with all bits turned.
func contrary(b []byte) []byte {
	to := make([]byte, len(b))
	for i, x := range b {
		to[i] = 255 - x
	}
	return to
}

// checkDiffer holds the places at which two texts differ, and their span, both ways round.
func checkDiffer(t *testing.T, a, b []byte, places []int) {
	t.Helper()
	for range 2 {
		if got := burst.Places(a, b); !slices.Equal(got, places) {
			t.Fatalf("Places(%.40v, %.40v) = %.40v, want %.40v", a, b, got, places)
		}
		if got, want := burst.Span(a, b), span(places); got != want {
			t.Fatalf("Span(%.40v, %.40v) = %d, want %d", a, b, got, want)
		}
		a, b = b, a
	}
}

// checkUnlike holds what is told of texts of unlike lengths, both ways round.
func checkUnlike(t *testing.T, a, b []byte) {
	t.Helper()
	for range 2 {
		if got := burst.Places(a, b); len(got) != 0 {
			t.Fatalf("Places of %d and %d bytes: %.40v, want none", len(a), len(b), got)
		}
		if got := burst.Span(a, b); got != -1 {
			t.Fatalf("Span of %d and %d bytes: %d, want -1", len(a), len(b), got)
		}
		a, b = b, a
	}
}

// checkFlip holds what Flip answers, that it leaves b alone, the span of what is flipped, and that flipped again it is b.
func checkFlip(t *testing.T, b []byte, at int, bits uint16, places []int) {
	t.Helper()
	same := slices.Clone(b)
	got := burst.Flip(b, at, bits)
	if !bytes.Equal(b, same) {
		t.Fatalf("Flip(%.40v, %d, %d) changed what was handed in: %.40v", same, at, bits, b)
	}
	if want := turned(b, places...); !bytes.Equal(got, want) {
		t.Fatalf("Flip(%.40v, %d, %d) = %.40v, want %.40v", b, at, bits, got, want)
	}
	checkDiffer(t, b, got, places)
	if long := burst.Span(b, got); long > 16 {
		t.Fatalf("Flip(%.40v, %d, %d) has a span of %d", b, at, bits, long)
	}
	if again := burst.Flip(got, at, bits); !bytes.Equal(again, b) {
		t.Fatalf("%.40v, flipped twice at %d by %d, is %.40v", b, at, bits, again)
	}
}

// P12.1

func TestDifferExamples(t *testing.T) {
	for _, c := range []struct {
		a, b   []byte
		places []int
		span   int
	}{
		{nil, nil, nil, 0}, {nil, []byte{}, nil, 0}, {[]byte{}, []byte{}, nil, 0},
		{[]byte{0}, []byte{0}, nil, 0}, {[]byte{255}, []byte{255}, nil, 0},
		{[]byte{0}, []byte{128}, []int{0}, 1}, {[]byte{0}, []byte{1}, []int{7}, 1}, {[]byte{129}, []byte{0}, []int{0, 7}, 8},
		{[]byte{0}, []byte{255}, []int{0, 1, 2, 3, 4, 5, 6, 7}, 8}, {[]byte{0x12}, []byte{0x48}, []int{1, 3, 4, 6}, 6},
		{[]byte{0, 0}, []byte{0, 128}, []int{8}, 1}, {[]byte{0, 0}, []byte{0, 1}, []int{15}, 1},
		{[]byte{0, 0}, []byte{1, 128}, []int{7, 8}, 2}, {[]byte{128, 0}, []byte{0, 1}, []int{0, 15}, 16},
		{[]byte{255, 0, 3}, []byte{254, 128, 3}, []int{7, 8}, 2}, {[]byte{255, 0, 3}, []byte{255, 64, 1}, []int{9, 22}, 14},
		{[]byte("astrolabe"), []byte("Astrolabe"), []int{2}, 1}, {[]byte("astrolabe"), []byte("astrolabf"), []int{70, 71}, 2},
		{make([]byte, 1001), append(make([]byte, 1000), 1), []int{8007}, 1},
		{append([]byte{128}, make([]byte, 1000)...), append(make([]byte, 1000), 1), []int{0, 8007}, 8008},
	} {
		if got := burst.Places(c.a, c.b); !slices.Equal(got, c.places) {
			t.Errorf("Places(%.40v, %.40v) = %v, want %v", c.a, c.b, got, c.places)
		}
		if got := burst.Span(c.a, c.b); got != c.span {
			t.Errorf("Span(%.40v, %.40v) = %d, want %d", c.a, c.b, got, c.span)
		}
		checkDiffer(t, c.a, c.b, c.places)
	}
}

func TestTextsThatAreOne(t *testing.T) {
	for _, n := range []int{0, 1, 2, 3, 20, 32, 255, 256, 1000, 65537} {
		for _, b := range kinds(n) {
			checkDiffer(t, b, b, nil)
			checkDiffer(t, b, slices.Clone(b), nil)
		}
	}
}

func TestOneBitAtEachPlace(t *testing.T) {
	for _, n := range []int{1, 2, 3, 9, 32} {
		for _, b := range kinds(n) {
			for place := range 8 * n {
				checkDiffer(t, b, turned(b, place), []int{place})
			}
		}
	}
}

func TestTwoBitsAtAllPlaces(t *testing.T) {
	for _, n := range []int{1, 2, 3, 6} {
		for _, b := range kinds(n) {
			for last := range 8 * n {
				for first := range last {
					checkDiffer(t, b, turned(b, first, last), []int{first, last})
				}
			}
		}
	}
}

func TestFirstAndLastBit(t *testing.T) {
	for n := 1; n < 70; n++ {
		for _, b := range kinds(n) {
			last := 8*n - 1
			checkDiffer(t, b, turned(b, 0), []int{0})
			checkDiffer(t, b, turned(b, last), []int{last})
			checkDiffer(t, b, turned(b, 0, last), []int{0, last})
		}
	}
}

func TestAllBits(t *testing.T) {
	for _, n := range []int{1, 2, 3, 20, 32, 255, 256, 65537} {
		for _, b := range kinds(n) {
			all := make([]int, 8*n)
			for place := range all {
				all[place] = place
			}
			checkDiffer(t, b, contrary(b), all)
		}
	}
}

func TestRunsOfBits(t *testing.T) {
	b := some(5)
	for last := range 40 {
		for first := range last + 1 {
			var run []int
			for place := first; place <= last; place++ {
				run = append(run, place)
			}
			checkDiffer(t, b, turned(b, run...), run)
		}
	}
}

func TestAllPairsOfBytes(t *testing.T) {
	for x := range 256 {
		for y := range 256 {
			a, b := []byte{byte(x)}, []byte{byte(y)}
			checkDiffer(t, a, b, reckoned(a, b))
			// The byte's places hang on where it stands, and on no other byte.
			a, b = []byte{7, 9, byte(x), 200}, []byte{7, 9, byte(y), 200}
			checkDiffer(t, a, b, reckoned(a, b))
		}
	}
}

func TestTextsWithoutAPattern(t *testing.T) {
	for n := range 130 {
		for _, a := range kinds(n) {
			for _, b := range kinds(n) {
				checkDiffer(t, a, b, reckoned(a, b))
			}
		}
	}
}

func TestUnlikeLengths(t *testing.T) {
	checkUnlike(t, nil, []byte{0})
	checkUnlike(t, []byte{}, []byte{0})
	for n := range 40 {
		for more := 1; more < 20; more++ {
			for _, b := range kinds(n + more) {
				checkUnlike(t, b[:n], b)
				checkUnlike(t, b[more:], b)
				checkUnlike(t, contrary(b)[:n], b)
			}
		}
	}
	checkUnlike(t, some(65536), some(65537))
	checkUnlike(t, nil, make([]byte, 65536))
}

func TestPlacesAreNew(t *testing.T) {
	a, b := []byte{0, 0, 0}, []byte{1, 128, 0}
	first := burst.Places(a, b)
	clear(first)
	_ = append(first, 9, 9)
	if !bytes.Equal(a, []byte{0, 0, 0}) || !bytes.Equal(b, []byte{1, 128, 0}) {
		t.Errorf("what was handed in is now %v and %v", a, b)
	}
	second := burst.Places(a, b)
	a[0], b[0] = 255, 7
	if !slices.Equal(second, []int{7, 8}) {
		t.Errorf("an answer is now %v", second)
	}
}

// P12.2

func TestFlipExamples(t *testing.T) {
	for _, c := range []struct {
		b    []byte
		at   int
		bits uint16
		want []byte
	}{
		{[]byte{0, 0}, 0, 32768, []byte{128, 0}}, {[]byte{0, 0}, 0, 1, []byte{0, 1}}, {[]byte{0, 0}, 0, 0x1234, []byte{0x12, 0x34}},
		{[]byte{0, 0}, 1, 0x1234, []byte{0x09, 0x1a}}, {[]byte{0, 0}, 4, 0x1234, []byte{0x01, 0x23}}, {[]byte{0, 0}, 8, 0x1234, []byte{0, 0x12}},
		{[]byte{0, 0}, -1, 0x1234, []byte{0x24, 0x68}}, {[]byte{0, 0}, -4, 0x1234, []byte{0x23, 0x40}}, {[]byte{0, 0}, -8, 0x1234, []byte{0x34, 0}},
		{[]byte{0, 0}, 15, 32768, []byte{0, 1}}, {[]byte{0, 0}, 16, 32768, []byte{0, 0}}, {[]byte{0, 0}, 15, 32767, []byte{0, 0}},
		{[]byte{0, 0}, -15, 1, []byte{128, 0}}, {[]byte{0, 0}, -16, 1, []byte{0, 0}}, {[]byte{0, 0}, -15, 65534, []byte{0, 0}},
		{[]byte{255, 0, 3}, 20, 65535, []byte{255, 0, 12}}, {[]byte{255, 0, 3}, -15, 1, []byte{127, 0, 3}}, {[]byte{255, 0, 3}, 24, 65535, []byte{255, 0, 3}},
		{[]byte{0, 0, 0, 0}, 8, 65535, []byte{0, 255, 255, 0}}, {[]byte{1, 2, 3, 4}, 8, 65535, []byte{1, 253, 252, 4}}, {[]byte{0, 0, 0, 0}, 9, 65535, []byte{0, 127, 255, 128}},
		{[]byte{165}, -4, 65535, []byte{90}}, {[]byte{165}, 3, 0xa000, []byte{177}},
	} {
		if got := burst.Flip(c.b, c.at, c.bits); !bytes.Equal(got, c.want) {
			t.Errorf("Flip(%v, %d, %d) = %v, want %v", c.b, c.at, c.bits, got, c.want)
		}
	}
}

// far are places that no text of up to 2^16 bytes has, nor one within 15 of them.
func far() []int {
	l := []int{-16, -17, -24, -32, -1000, math.MinInt, math.MinInt + 1, math.MinInt + 7, math.MinInt + 8, math.MinInt + 15, math.MinInt + 16}
	for back := range 20 {
		l = append(l, math.MaxInt-back)
	}
	for n := 20; n < strconv.IntSize-1; n++ {
		l = append(l, 1<<n, 1<<n-1, 1<<n+1, -1<<n, -1<<n-1, -1<<n+1)
	}
	return l
}

func TestFlipOfNoBytes(t *testing.T) {
	for _, b := range [][]byte{nil, {}, some(9)[4:4]} {
		for _, bits := range []uint16{0, 1, 32768, 65535} {
			for at := -40; at < 40; at++ {
				checkFlip(t, b, at, bits, nil)
			}
			for _, at := range far() {
				checkFlip(t, b, at, bits, nil)
			}
		}
	}
}

func TestFlipByNoBit(t *testing.T) {
	for _, n := range []int{1, 2, 3, 32} {
		for _, b := range kinds(n) {
			for at := -20; at < 8*n+20; at++ {
				checkFlip(t, b, at, 0, nil)
			}
			checkFlip(t, b, math.MinInt, 0, nil)
			checkFlip(t, b, math.MaxInt, 0, nil)
		}
	}
}

func TestFlipByEachSingleBit(t *testing.T) {
	for _, n := range []int{1, 2, 3, 9} {
		for _, b := range kinds(n) {
			for at := -20; at < 8*n+20; at++ {
				for i, bits := 0, uint16(32768); bits > 0; i, bits = i+1, bits/2 {
					var places []int
					if at+i >= 0 && at+i < 8*n {
						places = []int{at + i}
					}
					checkFlip(t, b, at, bits, places)
				}
			}
		}
	}
}

func TestFlipBySixteenBits(t *testing.T) {
	for _, n := range []int{1, 2, 3, 4, 32} {
		for _, b := range kinds(n) {
			for at := -20; at < 8*n+20; at++ {
				var places []int
				for place := max(at, 0); place < min(at+16, 8*n); place++ {
					places = append(places, place)
				}
				checkFlip(t, b, at, 65535, places)
			}
		}
	}
}

func TestFlipByAllBits(t *testing.T) {
	b := some(5)
	for _, at := range []int{-16, -15, -7, -1, 0, 3, 12, 24, 25, 33, 39, 40} {
		for bits := range 65536 {
			want := turned(b, hit(5, at, uint16(bits))...)
			if got := burst.Flip(b, at, uint16(bits)); !bytes.Equal(got, want) {
				t.Fatalf("Flip(%v, %d, %d) = %v, want %v", b, at, bits, got, want)
			}
		}
	}
}

func TestFlipOfTextsWithoutAPattern(t *testing.T) {
	patterns := []uint16{0x8001, 0x4002, 0xa5a5, 0x1234, 0xfffe, 0x7fff, 0x0810, 0xff00, 0x00ff}
	for n := 1; n < 35; n++ {
		for _, b := range kinds(n) {
			for at := -18; at < 8*n+3; at++ {
				bits := patterns[(at+18)%len(patterns)]
				checkFlip(t, b, at, bits, hit(n, at, bits))
			}
		}
	}
}

func TestFlipFarFromTheText(t *testing.T) {
	for _, n := range []int{1, 2, 3, 32, 65536} {
		b := some(n)
		for _, at := range append(far(), 8*n, 8*n+1, 8*n+15, 8*n+16) {
			for _, bits := range []uint16{1, 32768, 0xa5a5, 65535} {
				if got := burst.Flip(b, at, bits); !bytes.Equal(got, b) {
					t.Fatalf("Flip of %d bytes at %d by %d turned the bits at %.40v", n, at, bits, burst.Places(b, got))
				}
			}
		}
	}
}

func TestFlipIsNew(t *testing.T) {
	for _, bits := range []uint16{0, 1, 65535} {
		for _, at := range []int{-16, 0, 8, 24, math.MinInt, math.MaxInt} {
			room := []byte{1, 2, 3, 4, 5, 6}
			got := burst.Flip(room[:3], at, bits)
			want := slices.Clone(got)
			_ = append(got, 9, 9, 9)
			clear(got)
			if !bytes.Equal(room, []byte{1, 2, 3, 4, 5, 6}) {
				t.Errorf("at %d by %d: what was handed in, and what stands behind it, is now %v", at, bits, room)
			}
			got = burst.Flip(room[:3], at, bits)
			clear(room)
			if !bytes.Equal(got, want) {
				t.Errorf("at %d by %d: what was handed in changed an answer: %v, want %v", at, bits, got, want)
			}
		}
	}
	none := burst.Flip([]byte{}, 0, 65535)
	_ = append(none, 7)
	if again := burst.Flip(nil, 0, 65535); len(none) != 0 || len(again) != 0 {
		t.Errorf("of no bytes: %v and %v", none, again)
	}
}

// P12.3

func TestSpansOfWhatIsFlipped(t *testing.T) {
	for _, b := range [][]byte{some(2), some(3), make([]byte, 4)} {
		for at := -16; at <= 8*len(b); at++ {
			for bits := 1; bits < 65536; bits += 2 {
				got := burst.Flip(b, at, uint16(bits))
				if long := burst.Span(b, got); long < 0 || long > 16 {
					t.Fatalf("%v, flipped at %d by %d, has a span of %d", b, at, bits, long)
				}
				if again := burst.Flip(got, at, uint16(bits)); !bytes.Equal(again, b) {
					t.Fatalf("%v, flipped twice at %d by %d, is %v", b, at, bits, again)
				}
			}
		}
	}
}

func TestSpanOfSixteen(t *testing.T) {
	b := some(32)
	for at := range 8*32 - 15 {
		for bits := 32769; bits < 65536; bits += 1234 {
			if long := burst.Span(b, burst.Flip(b, at, uint16(bits))); long != 16 {
				t.Fatalf("flipped at %d by %d: a span of %d, want 16", at, bits, long)
			}
		}
	}
}

// The chapter's example.

func TestExample(t *testing.T) {
	b := []byte{0, 0}
	got := burst.Flip(b, 7, 49152)
	if !bytes.Equal(got, []byte{1, 128}) {
		t.Errorf("0, 0 flipped at 7 by 49152 is %v, want 1, 128", got)
	}
	if places := burst.Places(b, got); !slices.Equal(places, []int{7, 8}) {
		t.Errorf("the places are %v, want 7, 8", places)
	}
	if long := burst.Span(b, got); long != 2 {
		t.Errorf("the span is %d, want 2", long)
	}
}
