package image_test

import (
	"bytes"
	"math"
	"slices"
	"strings"
	"testing"

	"astrolabe/api"
	"astrolabe/image"
)

const (
	wordMin = -1 << 31
	wordMax = 1<<31 - 1
)

// words are n without a pattern.
func words(n int) []int32 {
	l := make([]int32, n)
	x := uint32(n)
	for i := range l {
		x = x*1664525 + 1013904223
		l[i] = int32(x)
	}
	return l
}

// codes are n words of code without a pattern.
func codes(n int) []uint32 {
	l := make([]uint32, n)
	for i, x := range words(n) {
		l[i] = uint32(x)
	}
	return l
}

// secrets are n, of which each third is one.
func secrets(n int) []bool {
	l := make([]bool, n)
	for i := range l {
		l[i] = i%3 == 1
	}
	return l
}

// row are the n numbers from one on.
func row(from, n int) []int {
	l := make([]int, n)
	for i := range l {
		l[i] = from + i
	}
	return l
}

// back is a list, the last one first.
func back(l []int) []int {
	l = slices.Clone(l)
	slices.Reverse(l)
	return l
}

// texts goes through all texts of some bytes, of up to so many.
func texts(from string, most int, do func(s string)) {
	l := []string{""}
	for n := 0; ; n++ {
		for _, s := range l {
			do(s)
		}
		if n == most {
			return
		}
		next := make([]string, 0, len(l)*len(from))
		for _, s := range l {
			for i := range len(from) {
				next = append(next, s+from[i:i+1])
			}
		}
		l = next
	}
}

// memory is an image of n words of data.
func memory(n int) api.Image { return api.Image{Data: words(n), Secret: secrets(n)} }

// with is an image of n words of data, and of In and Out.
func with(n int, in, out []int) api.Image {
	m := memory(n)
	m.In, m.Out = in, out
	return m
}

// usual is an image that has some of everything.
func usual() api.Image {
	return api.Image{Code: []uint32{43 << 26, 258, 1<<32 - 1}, Data: []int32{-1, 2, wordMin, 256}, Secret: []bool{true, false, false, true}, In: []int{3, 0}, Out: []int{1, 0, 1}}
}

// most is an image that has as much of everything as may be.
func most() api.Image {
	m := with(2048, back(row(1793, 255)), row(0, 255))
	m.Code = codes(16384)
	return m
}

// images are some that may be.
func images() []api.Image {
	l := []api.Image{{}, {Code: []uint32{}, Data: []int32{}, Secret: []bool{}, In: []int{}, Out: []int{}}, usual(), most()}
	for n := range 6 {
		l = append(l, api.Image{Code: codes(n)}, memory(n), with(n, row(0, n), nil), with(n, nil, row(0, n)), with(n, back(row(0, n)), append(row(0, n), back(row(0, n))...)))
	}
	for _, n := range []int{127, 128, 129, 254, 255, 256, 257, 511, 512, 2047, 2048} {
		l = append(l, api.Image{Code: codes(n)}, memory(n), with(n, []int{n - 1, 0}, []int{0, n - 1, n - 1}))
	}
	for _, n := range []int{2049, 4096, 8191, 8192, 16383, 16384} {
		l = append(l, api.Image{Code: codes(n)})
	}
	return l
}

// The chapter's example.

func TestExample(t *testing.T) {
	b, e := image.Put(api.Image{})
	if e != api.OK || len(b) != 12 {
		t.Errorf("an image of nothing has the bytes %v, %v, want 12", b, e)
	}
}

// P22.1

func TestCheckOfHowMany(t *testing.T) {
	for _, m := range []api.Image{
		{}, usual(), most(),
		{Code: codes(1)}, {Code: codes(16383)}, {Code: codes(16384)}, {Code: make([]uint32, 16384, 20000)},
		memory(1), memory(2047), memory(2048), {Data: make([]int32, 2048, 4096), Secret: make([]bool, 2048, 5000)},
		with(255, row(0, 255), nil), with(256, row(1, 255), nil), with(2048, row(1793, 255), nil), with(300, row(0, 254), nil),
		with(1, nil, make([]int, 255)), with(1, nil, make([]int, 254)), with(255, nil, row(0, 255)), with(2048, nil, row(1793, 255)),
	} {
		checkImage(t, m)
		check(t, m, api.OK)
	}
	for _, m := range []api.Image{
		{Code: codes(16385)}, {Code: codes(32768)}, {Code: codes(65535)}, {Code: codes(65536)}, {Code: codes(65537)}, {Code: codes(1 << 18)},
		memory(2049), memory(4096), memory(65536), memory(65537), {Data: make([]int32, 2049)}, {Data: make([]int32, 2049), Secret: make([]bool, 2048)},
		with(256, row(0, 256), nil), with(257, row(0, 257), nil), with(2048, row(0, 511), nil), with(2048, row(0, 512), nil), with(2048, row(0, 2048), nil), {In: make([]int, 256)}, {In: make([]int, 65537)},
		with(1, nil, make([]int, 256)), with(1, nil, make([]int, 257)), with(1, nil, make([]int, 512)), with(256, nil, row(0, 256)), {Out: make([]int, 256)}, {Out: make([]int, 65537)},
	} {
		checkRefused(t, m, api.ErrLong)
	}
}

func TestCheckOfMoreOfAddressesThanOfData(t *testing.T) {
	// As many of Out as may be need but one word; of In, none twice, there are no more than words.
	checkImage(t, with(1, []int{0}, make([]int, 255)))
	checkRefused(t, with(1, make([]int, 255), nil), api.ErrTwice)
	checkRefused(t, with(254, row(0, 255), nil), api.ErrArg)
}

func TestCheckOfSecret(t *testing.T) {
	lengths := []int{0, 1, 2, 3, 4, 5, 254, 255, 256, 257, 1024, 2047, 2048}
	for _, n := range lengths {
		for _, s := range append(lengths, 2049, 4096, 65536) {
			m := api.Image{Data: words(n), Secret: secrets(s)}
			if n == s {
				checkImage(t, m)
				check(t, m, api.OK)
			} else {
				checkRefused(t, m, api.ErrArg)
			}
		}
	}
	checkRefused(t, api.Image{Data: []int32{0}}, api.ErrArg)
	checkRefused(t, api.Image{Secret: []bool{false}}, api.ErrArg)
	checkRefused(t, api.Image{Secret: make([]bool, 65536+2048)}, api.ErrArg)
	checkRefused(t, api.Image{Data: make([]int32, 2), Secret: make([]bool, 1, 2)}, api.ErrArg)
}

// beside are numbers that are no address of n words: next to these, the ends, and such as are one when cut to fewer bits.
func beside(n int) []int {
	l := []int{-1, n, n + 1, -n - 1, -2, math.MinInt, math.MaxInt, math.MinInt + 1, math.MinInt32, math.MaxInt32, 1 << 32, 1<<32 + n - 1, -1 << 32, 65535, 65536, 65536 + n - 1, -65536, -65535, -32768, 2048, 32768, 1 << 16, 1 << 48}
	return slices.DeleteFunc(l, func(a int) bool { return a >= 0 && a < n })
}

func TestCheckOfAddresses(t *testing.T) {
	for _, n := range []int{1, 2, 3, 4, 255, 256, 257, 2047, 2048} {
		for _, a := range []int{0, n - 1, n / 2} {
			for _, m := range []api.Image{with(n, []int{a}, nil), with(n, nil, []int{a}), with(n, []int{a}, []int{a}), with(n, []int{a}, []int{a, a, a})} {
				checkImage(t, m)
				check(t, m, api.OK)
			}
		}
		for _, a := range beside(n) {
			for _, l := range [][]int{{a}, {a, 0}, {0, a}, {n - 1, a}, {a, a}, {a, 0, 0}, {0, 0, a}} {
				checkRefused(t, with(n, l, nil), api.ErrArg)
				checkRefused(t, with(n, nil, l), api.ErrArg)
				checkRefused(t, with(n, []int{0}, l), api.ErrArg)
				checkRefused(t, with(n, l, []int{0}), api.ErrArg)
			}
		}
	}
}

func TestCheckOfAddressesWithoutData(t *testing.T) {
	for _, a := range beside(0) {
		checkRefused(t, api.Image{In: []int{a}}, api.ErrArg)
		checkRefused(t, api.Image{Out: []int{a}}, api.ErrArg)
	}
	// Code and Secret have no addresses.
	checkRefused(t, api.Image{Code: codes(5), In: []int{0}}, api.ErrArg)
	checkRefused(t, api.Image{Code: codes(5), Out: []int{0}}, api.ErrArg)
	checkRefused(t, api.Image{Code: codes(5), Data: words(2), Secret: secrets(2), In: []int{2}}, api.ErrArg)
	checkRefused(t, api.Image{Code: codes(5), Data: words(2), Secret: secrets(2), Out: []int{2}}, api.ErrArg)
}

func TestCheckOfTwoThatAreOne(t *testing.T) {
	for _, n := range []int{2, 3, 4, 5, 8, 100, 255} {
		for i := range n {
			for _, k := range []int{0, 1, n / 2, n - 2, n - 1} {
				in := row(2048-n, n)
				in[i] = in[k]
				m := with(2048, in, nil)
				if i == k {
					checkImage(t, m)
					check(t, m, api.OK)
				} else {
					checkRefused(t, m, api.ErrTwice)
				}
			}
		}
	}
	checkRefused(t, with(1, []int{0, 0}, nil), api.ErrTwice)
	checkRefused(t, with(1, []int{0, 0, 0}, []int{0}), api.ErrTwice)
	// What is the same when cut to eight bits is another one.
	checkImage(t, with(513, []int{0, 256, 512, 1, 257}, nil))
	// Of Out, and of In and Out, two may be one.
	check(t, with(1, []int{0}, []int{0, 0}), api.OK)
	check(t, with(4, []int{3, 1}, []int{1, 1, 3, 3}), api.OK)
}

// fault is one thing that is wrong in an image.
type fault struct {
	why api.Errno
	do  func(m *api.Image)
}

// faults are such as may be wrong together, in the order in which they are told.
func faults() []fault {
	return []fault{
		{api.ErrLong, func(m *api.Image) { m.Code = make([]uint32, 16385) }},
		{api.ErrLong, func(m *api.Image) { m.Data, m.Secret = make([]int32, 2049), make([]bool, 2049) }},
		{api.ErrLong, func(m *api.Image) { m.In = row(0, 256) }},
		{api.ErrLong, func(m *api.Image) { m.Out = row(0, 256) }},
		{api.ErrArg, func(m *api.Image) { m.Secret = append(m.Secret, true) }},
		{api.ErrArg, func(m *api.Image) { m.Secret = m.Secret[:len(m.Data)-1] }},
		{api.ErrArg, func(m *api.Image) { m.In = append(m.In, -1) }},
		{api.ErrArg, func(m *api.Image) { m.In = append([]int{len(m.Data)}, m.In...) }},
		{api.ErrArg, func(m *api.Image) { m.Out = append(m.Out, len(m.Data)) }},
		{api.ErrArg, func(m *api.Image) { m.Out = append([]int{-1}, m.Out...) }},
		{api.ErrTwice, func(m *api.Image) { m.In = append(m.In, m.In[0]) }},
	}
}

func TestOrderOfWhatCheckTells(t *testing.T) {
	all := faults()
	for set := range 1 << len(all) {
		m := with(400, []int{5, 6}, []int{7})
		want := api.OK
		for i, f := range all {
			if set>>i%2 == 1 {
				f.do(&m)
				if want == api.OK {
					want = f.why
				}
			}
		}
		if want == api.OK {
			check(t, m, want)
		} else {
			checkRefused(t, m, want)
		}
	}
}

func TestCheckOfAllSmallImages(t *testing.T) {
	var lists [][]int
	texts("\x00\x01\x02\x03\x04", 3, func(s string) {
		var l []int
		for i := range len(s) {
			l = append(l, int(s[i])-1)
		}
		lists = append(lists, l)
	})
	told := map[api.Errno]int{}
	for n := range 5 {
		for s := range 5 {
			for i, in := range lists {
				m := api.Image{Data: words(n), Secret: secrets(s), In: in, Out: lists[i*7%len(lists)]}
				told[checkImage(t, m)]++
				m.Out = nil
				told[checkImage(t, m)]++
				m.In, m.Out = nil, in
				told[checkImage(t, m)]++
			}
		}
	}
	for _, e := range []api.Errno{api.OK, api.ErrArg, api.ErrTwice} {
		if told[e] == 0 {
			t.Errorf("of no image %v was told", e)
		}
	}
}

// P22.2: Put

func TestPutByExactAnswers(t *testing.T) {
	for _, x := range []struct {
		m    api.Image
		want []byte
	}{
		{api.Image{}, []byte{65, 83, 84, 49, 0, 0, 0, 0, 0, 0, 248, 224}},
		{
			api.Image{Code: []uint32{43 << 26}, Data: []int32{-1, 2}, Secret: []bool{true, false}, In: []int{0}, Out: []int{1, 0, 1}},
			[]byte{65, 83, 84, 49, 0, 1, 172, 0, 0, 0, 0, 2, 255, 255, 255, 255, 1, 0, 0, 0, 2, 0, 1, 0, 0, 3, 0, 1, 0, 0, 0, 1, 30, 11},
		},
		{
			api.Image{Code: []uint32{0x01020304, 0xfffefdfc}},
			[]byte{65, 83, 84, 49, 0, 2, 1, 2, 3, 4, 255, 254, 253, 252, 0, 0, 0, 0, 173, 73},
		},
		{
			api.Image{Data: []int32{0x12345678, wordMin, wordMax}, Secret: []bool{false, true, false}, In: []int{2, 0, 1}},
			[]byte{65, 83, 84, 49, 0, 0, 0, 3, 18, 52, 86, 120, 0, 128, 0, 0, 0, 1, 127, 255, 255, 255, 0, 3, 0, 2, 0, 0, 0, 1, 0, 226, 80},
		},
		{
			api.Image{Data: []int32{7}, Secret: []bool{false}, Out: []int{0, 0}},
			[]byte{65, 83, 84, 49, 0, 0, 0, 1, 0, 0, 0, 7, 0, 0, 2, 0, 0, 0, 0, 205, 65},
		},
	} {
		checkPut(t, x.m, x.want)
		checkImage(t, x.m)
	}
}

func TestPutOfHowMany(t *testing.T) {
	for _, m := range images() {
		checkImage(t, m)
		check(t, m, api.OK)
		b, _ := image.Put(m)
		if want := 12 + 4*len(m.Code) + 5*len(m.Data) + 2*len(m.In) + 2*len(m.Out); len(b) != want {
			t.Errorf("%+v has %d bytes, want %d", small(m), len(b), want)
		}
	}
}

func TestPutOfWords(t *testing.T) {
	l := []int64{0, 1, 255, 256, 257, 32767, 32768, 65535, 65536, 1 << 24, 0x01020304, 0x40302010, wordMax, -wordMin, 0x80000001, 0xff000000, 0xfffefdfc, 1<<32 - 256, 1<<32 - 2, 1<<32 - 1}
	for n := range 32 {
		l = append(l, 1<<n, 1<<32-1-1<<n)
	}
	for _, x := range l {
		w := number(x, 4)
		m := api.Image{Code: []uint32{uint32(x)}}
		checkPut(t, m, sealed("AST1", "\x00\x01", w, "\x00\x00", "\x00", "\x00"))
		m = api.Image{Data: []int32{int32(uint32(x))}, Secret: []bool{false}}
		checkPut(t, m, sealed("AST1", "\x00\x00", "\x00\x01", w, "\x00", "\x00", "\x00"))
		m.Secret[0] = true
		checkPut(t, m, sealed("AST1", "\x00\x00", "\x00\x01", w, "\x01", "\x00", "\x00"))
	}
}

func TestPutOfAddresses(t *testing.T) {
	m := memory(2048)
	front := "AST1\x00\x00" + data(m.Data, m.Secret)
	for a := range 2048 {
		if a > 20 && a%17 != 0 && a%256 > 1 && a%256 < 255 {
			continue
		}
		s := string([]byte{byte(a / 256), byte(a % 256)})
		m.In, m.Out = []int{a}, nil
		checkPut(t, m, sealed(front, "\x01", s, "\x00"))
		m.In, m.Out = nil, []int{a, 0, a}
		checkPut(t, m, sealed(front, "\x00", "\x03", s, "\x00\x00", s))
	}
	m.In, m.Out = []int{258, 2047, 0}, []int{513}
	checkPut(t, m, sealed(front, "\x03\x01\x02\x07\xff\x00\x00", "\x01\x02\x01"))
}

func TestPutOfAllSecrets(t *testing.T) {
	for n := range 9 {
		for set := range 1 << n {
			m := api.Image{Data: words(n)}
			for i := range n {
				m.Secret = append(m.Secret, set>>i%2 == 1)
			}
			checkImage(t, m)
		}
	}
}

func TestPutTakesAnyCode(t *testing.T) {
	// Whether a word is an instruction's is not asked.
	for op := range 64 {
		checkImage(t, api.Image{Code: []uint32{uint32(op) << 26, uint32(op)<<26 + 1<<26 - 1}})
	}
}

func TestPutCountsWordsNotRoom(t *testing.T) {
	m, long := usual(), most()
	m.Code = append(long.Code[:0:16384], m.Code...)
	m.Data = append(long.Data[:0:2048], m.Data...)
	m.Secret = append(long.Secret[:0:2048], m.Secret...)
	m.In = append(long.In[:0:255], m.In...)
	m.Out = append(long.Out[:0:255], m.Out...)
	checkPut(t, m, sealed(inner(usual())))
}

func TestPutOfWhatCheckRefuses(t *testing.T) {
	for _, f := range faults() {
		m := with(400, []int{5, 6}, []int{7})
		m.Code = codes(3)
		f.do(&m)
		checkRefused(t, m, f.why)
	}
	for _, n := range []int{-1, 4, 65536, 1 << 32} {
		m := usual()
		m.In[1] = n
		checkRefused(t, m, api.ErrArg)
		m = usual()
		m.Out[2] = n
		checkRefused(t, m, api.ErrArg)
	}
}

// P22.2: Get

func TestGetByExactAnswers(t *testing.T) {
	whole := "AST1\x00\x01\xac\x00\x00\x00\x00\x02\xff\xff\xff\xff\x01\x00\x00\x00\x02\x00\x01\x00\x00\x03\x00\x01\x00\x00\x00\x01"
	checkGot(t, sealed(whole), api.Image{Code: []uint32{43 << 26}, Data: []int32{-1, 2}, Secret: []bool{true, false}, In: []int{0}, Out: []int{1, 0, 1}})
	checkGot(t, sealed("AST1\x00\x00\x00\x00\x00\x00"), api.Image{})
	checkGot(t, sealed("AST1\x00\x01\xff\xfe\xfd\xfc\x00\x00\x00\x00"), api.Image{Code: []uint32{0xfffefdfc}})
	checkGot(t, sealed("AST1\x00\x00\x00\x01\x80\x00\x00\x00\x00\x00\x01\x00\x00"), api.Image{Data: []int32{wordMin}, Secret: []bool{false}, Out: []int{0}})
	for s, want := range map[string]api.Errno{
		"": api.ErrShort, "A": api.ErrShort, "AST": api.ErrShort, "B": api.ErrShort, "\xff\xff\xff": api.ErrShort,
		"BST1": api.ErrForm, "AST2": api.ErrForm, "ast1": api.ErrForm, "\x00\x00\x00\x00": api.ErrForm, "1TSA": api.ErrForm, "AST\x00\x01\x00\x00\x00\x00\x00\x00": api.ErrForm,
		"AST1": api.ErrShort, "AST1\x00": api.ErrShort, "AST1\x00\x00": api.ErrShort, "AST1\x00\x00\x00\x00\x00": api.ErrShort,
		"AST1\x00\x01\x00\x00\x00": api.ErrShort, "AST1\x80\x00\x00\x00\x00\x00": api.ErrShort, "AST1\xff\xff": api.ErrShort, "AST1\x00\x00\xff\xff\x00\x00": api.ErrShort,
		"AST1\x00\x00\x00\x01\x00\x00\x00\x00": api.ErrShort, "AST1\x00\x00\x00\x01\x00\x00\x00\x00\x02": api.ErrForm, "AST1\x00\x00\xff\xff\x00\x00\x00\x00\xff": api.ErrForm,
		"AST1\x00\x00\x00\x00\x01": api.ErrShort, "AST1\x00\x00\x00\x00\x01\x00\x00": api.ErrShort, "AST1\x00\x00\x00\x00\x01\x00\x00\x00": api.ErrArg, "AST1\x00\x00\x00\x00\x00\x01\x00\x00": api.ErrArg,
		"AST1\x00\x00\x00\x00\x00\x00\x00": api.ErrLong, "AST1\x00\x00\x00\x00\x01\x00\x00\x00\x00": api.ErrLong, whole + "x": api.ErrLong, whole + whole: api.ErrLong,
		"AST1\x00\x00\x00\x01\x00\x00\x00\x00\x01\x02\x00\x00\x00\x00\x00": api.ErrTwice, "AST1\x00\x00\x00\x01\x00\x00\x00\x00\x01\x02\x00\x00\x00\x01\x00": api.ErrArg,
		"AST1\x00\x00\x00\x01\x00\x00\x00\x00\x01\x00\x01\xff\xff": api.ErrArg,
	} {
		b := sealed(s)
		checkUngot(t, b, want)
		checkBytes(t, b)
	}
}

func TestGetOfBytesThatAreNotSealed(t *testing.T) {
	checkUngot(t, nil, api.ErrShort)
	checkUngot(t, []byte{}, api.ErrShort)
	for x := range 256 {
		checkUngot(t, []byte{byte(x)}, api.ErrShort)
	}
	checkUngot(t, []byte{0, 0}, api.ErrSum)
	checkUngot(t, []byte{255, 255}, api.ErrShort) // no bytes, sealed
	checkUngot(t, []byte("AST1\x00\x00\x00\x00\x00\x00"), api.ErrSum)
	for _, m := range []api.Image{{}, usual(), memory(40)} {
		b := sealed(inner(m))
		for at := range 8 * len(b) {
			other := slices.Clone(b)
			other[at/8] ^= 128 >> (at % 8)
			checkUngot(t, other, api.ErrSum)
		}
		for n := range len(b) {
			checkBytes(t, b[:n])
		}
		checkUngot(t, b[:len(b)-1], api.ErrSum)
		checkUngot(t, append(slices.Clone(b), 7), api.ErrSum)
		checkUngot(t, b[1:], api.ErrSum)
	}
	// That the sum is wrong is told ahead of all else.
	for _, s := range []string{"XST1", "AST", "AST1\x00\x00\x00\x01\x00\x00\x00\x00\x02", "AST1\x00\x00\x00\x00\x00\x00\x00", "AST1\x00\x00\x00\x00\x01\x00\x00\x00"} {
		b := sealed(s)
		b[len(b)-1] ^= 1
		checkUngot(t, b, api.ErrSum)
	}
}

func TestGetOfBytesSealedTwice(t *testing.T) {
	for _, m := range []api.Image{{}, usual()} {
		checkUngot(t, sealed(string(sealed(inner(m)))), api.ErrLong)
	}
}

func TestGetOfBytesThatLack(t *testing.T) {
	for _, m := range []api.Image{{}, usual(), memory(60), with(4, row(0, 4), nil), with(2, nil, make([]int, 100)), {Code: codes(70)}} {
		s := inner(m)
		for n := range len(s) {
			checkUngot(t, sealed(s[:n]), api.ErrShort)
		}
		checkGot(t, sealed(s), m)
	}
	s := inner(most())
	ends := []int{6, 10, 6 + 4*8192, 6 + 4*16384, 8 + 4*16384, 13 + 4*16384, 8 + 4*16384 + 5*2048, len(s) - 511, len(s)}
	for _, end := range ends {
		for n := end - 6; n < end; n++ {
			checkUngot(t, sealed(s[:n]), api.ErrShort)
		}
	}
}

func TestGetOfOtherFirstFour(t *testing.T) {
	s := inner(usual())
	for i := range 4 {
		for x := range 256 {
			b := []byte(s)
			b[i] = byte(x)
			if b[i] == s[i] {
				checkGot(t, sealed(string(b)), usual())
				continue
			}
			checkUngot(t, sealed(string(b)), api.ErrForm)
			checkUngot(t, sealed(string(b[:4])), api.ErrForm)
			checkUngot(t, sealed(string(b[:5])), api.ErrForm)
			checkUngot(t, sealed(string(b), "left"), api.ErrForm)
			for n := range 4 {
				checkUngot(t, sealed(string(b[:n])), api.ErrShort)
			}
		}
	}
	for _, four := range []string{"1TSA", "SAT1", "ASTI", "ast1", "aST1", "AST\x00", "\x00AST", "\xff\xff\xff\xff", " AST", "AST "} {
		checkUngot(t, sealed(four, s[4:]), api.ErrForm)
		checkUngot(t, sealed(four, s), api.ErrForm)
	}
	checkUngot(t, sealed(s[1:]), api.ErrForm)
	checkUngot(t, sealed(s[4:]), api.ErrForm)
}

func TestGetOfWhatSaysWhetherAWordIsSecret(t *testing.T) {
	m := usual()
	s := inner(m)
	front := len("AST1") + len(code(m.Code)) + 2
	for i := range m.Data {
		at := front + 5*i + 4
		for x := range 256 {
			b := []byte(s)
			b[at] = byte(x)
			if x < 2 {
				other := clone(m)
				other.Secret[i] = x == 1
				checkGot(t, sealed(string(b)), other)
				continue
			}
			checkUngot(t, sealed(string(b)), api.ErrForm)
			// It is told as soon as it is read, ahead of what lacks or is left behind it, and behind what lacks ahead of it.
			checkUngot(t, sealed(string(b), "left"), api.ErrForm)
			for n := range s {
				want := api.ErrForm
				if n <= at {
					want = api.ErrShort
				}
				checkUngot(t, sealed(string(b[:n])), want)
			}
		}
	}
}

func TestGetTellsOfSecretAheadOfCheck(t *testing.T) {
	flag := "\x00\x00\x00\x00\x02"
	long := string(make([]byte, 4*16385))
	checkUngot(t, sealed("AST1", number(16385, 2), long, "\x00\x01", flag, "\x00\x00"), api.ErrForm)
	checkUngot(t, sealed("AST1", number(16385, 2), long, "\x00\x02", flag), api.ErrForm)
	checkUngot(t, sealed("AST1\x00\x00", number(2049, 2), string(make([]byte, 5*2048)), flag, "\x00\x00"), api.ErrForm)
	checkUngot(t, sealed("AST1\x00\x00", "\x00\x01", flag, "\x01\x00\x01", "\x00"), api.ErrForm)
	checkUngot(t, sealed("AST1\x00\x00", "\x00\x01", flag, "\x02\x00\x00\x00\x00", "\x00"), api.ErrForm)
}

func TestGetOfBytesThatAreLeft(t *testing.T) {
	for _, m := range []api.Image{{}, usual(), memory(60)} {
		s := inner(m)
		for x := range 256 {
			checkUngot(t, sealed(s, string([]byte{byte(x)})), api.ErrLong)
		}
		for n := 1; n < 300; n++ {
			checkUngot(t, sealed(s, string(make([]byte, n))), api.ErrLong)
		}
		checkUngot(t, sealed(s, s), api.ErrLong)
		checkUngot(t, sealed(s, strings.Repeat("\x00\x01", 65536)), api.ErrLong)
	}
	// That bytes are left is told ahead of what Check refuses.
	for _, m := range []api.Image{with(1, []int{1}, nil), with(1, []int{0, 0}, nil), with(1, nil, []int{1})} {
		checkUngot(t, sealed(inner(m), "\x00"), api.ErrLong)
	}
}

func TestGetOfWhatCheckRefuses(t *testing.T) {
	for m, want := range map[*api.Image]api.Errno{
		{Code: codes(16385)}: api.ErrLong, {Code: codes(32767)}: api.ErrLong, {Code: codes(32768)}: api.ErrLong, {Code: codes(40000)}: api.ErrLong, {Code: codes(65535)}: api.ErrLong,
		{Data: words(2049), Secret: secrets(2049)}: api.ErrLong, {Data: words(32768), Secret: secrets(32768)}: api.ErrLong, {Data: words(65535), Secret: secrets(65535)}: api.ErrLong,
		{Data: words(1), Secret: secrets(1), In: []int{1}}: api.ErrArg, {Data: words(1), Secret: secrets(1), Out: []int{1}}: api.ErrArg,
		{Data: words(3), Secret: secrets(3), In: []int{0, 2}, Out: []int{0, 1, 2, 3}}:   api.ErrArg,
		{Data: words(256), Secret: secrets(256), In: []int{256}}:                        api.ErrArg,
		{Data: words(2048), Secret: secrets(2048), In: []int{2048}}:                     api.ErrArg,
		{Data: words(2048), Secret: secrets(2048), In: []int{32768}}:                    api.ErrArg,
		{Data: words(2048), Secret: secrets(2048), Out: []int{65535}}:                   api.ErrArg,
		{Data: words(2), Secret: secrets(2), In: []int{1, 1}}:                           api.ErrTwice,
		{Data: words(255), Secret: secrets(255), In: append(row(0, 254), 7)}:            api.ErrTwice,
		{Data: words(2), Secret: secrets(2), In: []int{1, 1}, Out: []int{2}}:            api.ErrArg,
		{Data: words(2), Secret: secrets(2), In: []int{1, 1, 2}}:                        api.ErrArg,
		{Code: codes(16385), Data: words(2), Secret: secrets(2), In: []int{1, 1, 2}}:    api.ErrLong,
		{Code: codes(3), Data: words(2049), Secret: secrets(2049), Out: []int{0, 5000}}: api.ErrLong,
	} {
		b := sealed(inner(*m))
		checkUngot(t, b, want)
		checkBytes(t, b)
	}
}

func TestGetOfHowManyBeyondTheBytes(t *testing.T) {
	// As many words as two bytes tell, counted from 0 on, of which the last one lacks.
	for _, n := range []int64{2048, 16384, 16385, 32767, 32768, 65535} {
		checkUngot(t, sealed("AST1", number(n, 2), string(make([]byte, 4*n-1))), api.ErrShort)
		checkUngot(t, sealed("AST1", number(n, 2), string(make([]byte, 4*n))), api.ErrShort)
		checkUngot(t, sealed("AST1\x00\x00", number(n, 2), string(make([]byte, 5*n-1))), api.ErrShort)
		checkUngot(t, sealed("AST1\x00\x00", number(n, 2), string(make([]byte, 5*n))), api.ErrShort)
	}
	for n := int64(1); n < 256; n++ {
		front := "AST1\x00\x00" + data(words(3), secrets(3))
		checkUngot(t, sealed(front, number(n, 1), string(make([]byte, 2*n-1))), api.ErrShort)
		checkUngot(t, sealed(front, "\x00", number(n, 1), string(make([]byte, 2*n-1))), api.ErrShort)
		checkGot(t, sealed(front, "\x00", number(n, 1), string(make([]byte, 2*n))), with(3, nil, make([]int, n)))
	}
}

func TestGetCountsBytesNotRoom(t *testing.T) {
	s := inner(usual())
	room := append(sealed(s), sealed(s, "\x00")...)
	n := len(s) + 2
	checkGot(t, room[:n], usual())
	checkGot(t, room[:n:n], usual())
	checkUngot(t, room[:n-1], api.ErrSum)
	lacks := sealed(s[:len(s)-1])
	checkUngot(t, append(lacks, s[len(s)-1])[:len(lacks)], api.ErrShort)
}

// P22.2: all together

func TestGetOfAllShortBytes(t *testing.T) {
	told := map[api.Errno]int{}
	hold := func(s string) { told[checkBytes(t, sealed("AST1", s))]++ }
	texts("\x00\x01", 15, hold)
	texts("\x00\x01\x02", 10, hold)
	texts("\x00\x01\x02\x80\xff", 7, hold)
	texts("AST12", 6, func(s string) { told[checkBytes(t, sealed(s))]++ })
	for _, e := range []api.Errno{api.OK, api.ErrShort, api.ErrForm, api.ErrLong, api.ErrArg} {
		if told[e] == 0 {
			t.Errorf("of no bytes %v was told", e)
		}
	}
}

func TestGetOfAllShortBytesBehindData(t *testing.T) {
	told := map[api.Errno]int{}
	for n := range 4 {
		texts("\x00\x01\x02", 9, func(s string) {
			told[checkBytes(t, sealed("AST1\x00\x00", data(words(n), secrets(n)), s))]++
		})
	}
	for _, e := range []api.Errno{api.OK, api.ErrShort, api.ErrLong, api.ErrArg, api.ErrTwice} {
		if told[e] == 0 {
			t.Errorf("of no bytes %v was told", e)
		}
	}
}

func TestGetOfBytesThatAreChanged(t *testing.T) {
	for _, m := range []api.Image{{}, usual(), with(3, []int{1}, []int{2, 0}), {Code: codes(2)}} {
		s := inner(m)
		for i := range s {
			for x := range 256 {
				b := []byte(s)
				b[i] = byte(x)
				checkBytes(t, sealed(string(b)))
				checkBytes(t, sealed(s[:i], string([]byte{byte(x)}), s[i:]))
			}
			for n := range len(s) - i + 1 {
				checkBytes(t, sealed(s[:i], s[i+n:]))
				checkBytes(t, sealed(s[:i+n], s[i:]))
			}
			for k := range i {
				b := []byte(s)
				b[i], b[k] = b[k], b[i]
				checkBytes(t, sealed(string(b)))
				for _, x := range []byte{0, 1, 2, 3, 255} {
					for _, y := range []byte{0, 1, 2, 3, 255} {
						b[i], b[k] = x, y
						checkBytes(t, sealed(string(b)))
					}
				}
			}
		}
	}
}

// P22.3

// without are images without a pattern; most of them may be.
func without(n int, do func(m api.Image)) {
	x := uint32(12345)
	next := func(below int) int {
		x = x*1664525 + 1013904223
		return int(x>>8) % below
	}
	for range n {
		var m api.Image
		for range next(12) {
			m.Code = append(m.Code, uint32(next(1<<24))*256+uint32(next(256)))
		}
		size := 1 + next(20)
		for range size {
			m.Data = append(m.Data, int32(next(1<<24)*256+next(256)-1<<31))
			m.Secret = append(m.Secret, next(2) == 1)
		}
		for range next(4) {
			m.In = append(m.In, next(size))
		}
		for range next(9) {
			m.Out = append(m.Out, next(size+next(20)/19))
		}
		do(m)
	}
}

func TestThereAndBack(t *testing.T) {
	for _, m := range images() {
		b, e := image.Put(m)
		if e != api.OK {
			t.Fatalf("Put(%+v): %v", small(m), e)
		}
		checkGot(t, b, m)
	}
}

func TestThereAndBackWithoutAPattern(t *testing.T) {
	told := map[api.Errno]int{}
	without(6000, func(m api.Image) {
		told[checkImage(t, m)]++
		told[checkBytes(t, sealed(inner(m)))]++
	})
	for _, e := range []api.Errno{api.OK, api.ErrArg, api.ErrTwice} {
		if told[e] < 100 {
			t.Errorf("%v was told of %d images", e, told[e])
		}
	}
}

// What is kept and shared.

func TestPutIsNewMemory(t *testing.T) {
	for _, m := range []api.Image{{}, usual(), memory(30)} {
		want := sealed(inner(m))
		first, _ := image.Put(m)
		second, _ := image.Put(m)
		clear(first[:cap(first)])
		_ = append(first[:0], "what is behind"...)
		if !bytes.Equal(second, want) {
			t.Errorf("one answer changed another one to %v", second)
		}
		checkPut(t, m, want)
		third, _ := image.Put(m)
		clear(m.Code)
		clear(m.Data)
		clear(m.Secret)
		clear(m.In)
		clear(m.Out)
		if !bytes.Equal(third, want) {
			t.Errorf("what was handed in changed an answer to %v", third)
		}
	}
}

// spoil changes all that an image's lists hold, and what they have room for.
func spoil(m api.Image) {
	for i := range m.Code[:cap(m.Code)] {
		m.Code[:cap(m.Code)][i] ^= 1<<32 - 1
	}
	for i := range m.Data[:cap(m.Data)] {
		m.Data[:cap(m.Data)][i] ^= -1
	}
	for i := range m.Secret[:cap(m.Secret)] {
		m.Secret[:cap(m.Secret)][i] = !m.Secret[:cap(m.Secret)][i]
	}
	for i := range m.In[:cap(m.In)] {
		m.In[:cap(m.In)][i] = -7
	}
	for i := range m.Out[:cap(m.Out)] {
		m.Out[:cap(m.Out)][i] = -9
	}
}

func TestGetIsNewMemory(t *testing.T) {
	for _, want := range []api.Image{usual(), memory(30), with(3, row(0, 3), []int{2, 2, 0})} {
		b := sealed(inner(want))
		first, _ := image.Get(b)
		second, _ := image.Get(b)
		spoil(first)
		if !alike(second, want) {
			t.Errorf("one answer changed another one to %+v", second)
		}
		if !bytes.Equal(b, sealed(inner(want))) {
			t.Errorf("an answer changed what was handed in to %v", b)
		}
		checkGot(t, b, want)
		third, _ := image.Get(b)
		clear(b)
		if !alike(third, want) {
			t.Errorf("what was handed in changed an answer to %+v", third)
		}
	}
}

func TestListsOfAnImageShareNothing(t *testing.T) {
	want := with(3, []int{1, 0}, []int{2, 2, 0})
	b := sealed(inner(want))
	m, _ := image.Get(b)
	for i := range m.In[:cap(m.In)] {
		m.In[:cap(m.In)][i] = 50
	}
	if !slices.Equal(m.Out, want.Out) {
		t.Errorf("In changed Out to %v", m.Out)
	}
	m, _ = image.Get(b)
	for i := range m.Out[:cap(m.Out)] {
		m.Out[:cap(m.Out)][i] = 50
	}
	if !slices.Equal(m.In, want.In) {
		t.Errorf("Out changed In to %v", m.In)
	}
}

func TestNothingIsKept(t *testing.T) {
	b := sealed(inner(usual()))
	for _, other := range [][]byte{nil, {1, 2, 3}, sealed("AST"), sealed("AST1\x00\x00\x00\x01\x00\x00\x00\x00\x02"), sealed(inner(most())), sealed(inner(api.Image{})), sealed(inner(usual()), "left")} {
		checkBytes(t, other)
		checkGot(t, b, usual())
		checkPut(t, usual(), b)
	}
	for _, f := range faults() {
		m := with(400, []int{5, 6}, []int{7})
		f.do(&m)
		checkRefused(t, m, f.why)
		checkPut(t, usual(), b)
		checkGot(t, b, usual())
	}
}
