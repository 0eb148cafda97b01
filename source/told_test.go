package source_test

import (
	"math"
	"slices"
	"strings"
	"testing"

	"astrolabe/api"
	"astrolabe/chart"
	"astrolabe/core"
	"astrolabe/image"
	"astrolabe/source"
)

// usual is an image that has some of everything.
func usual() api.Image {
	m := codeOf("lw r1 r0 0", "add r2 r2 r1", "addi r1 r1 -1", "bne r1 r0 1", "jump 5", "sw r2 r0 3", "halt")
	m.Data, m.Secret = []int32{5, -1, wordMin, wordMax}, []bool{true, false, true, false}
	m.In, m.Out = []int{2, 0}, []int{3, 3, 0}
	return m
}

// rising are the n numbers from one on.
func rising(from, n int) []int {
	l := make([]int, n)
	for k := range l {
		l[k] = from + k
	}
	return l
}

// most is an image that has as much of everything as may be.
func most() api.Image {
	m := api.Image{Secret: make([]bool, 2048), In: rising(1793, 255), Out: make([]int, 255)}
	c := chance{3}
	for k := range 2048 {
		m.Data = append(m.Data, int32(c.Below(1<<24)*256+k))
		m.Secret[k] = k%3 == 1
	}
	slices.Reverse(m.In)
	for len(m.Code) < 16384 {
		m.Code = append(m.Code, someWord(&c))
	}
	return m
}

// someWord is an instruction's, without a pattern.
func someWord(c *chance) uint32 {
	op := 1 + c.Below(43)
	var fields [4]int
	for k, letter := range []byte(chart.Shape(op)) {
		low, high := chart.Bounds(letter)
		fields[k] = low + c.Below(high-low+1)
	}
	return chart.Word(op, fields)
}

// refused are images that may not be, and why.
func refused() map[*api.Image]api.Errno {
	return map[*api.Image]api.Errno{
		{Data: []int32{1}}:                                                api.ErrArg,
		{Secret: []bool{false}}:                                           api.ErrArg,
		{Data: []int32{1, 2}, Secret: []bool{true}}:                       api.ErrArg,
		{Code: []uint32{42 << 26}, In: []int{0}}:                          api.ErrArg,
		{Code: []uint32{42 << 26}, Out: []int{0}}:                         api.ErrArg,
		{Data: []int32{1}, Secret: []bool{true}, In: []int{-1}}:           api.ErrArg,
		{Data: []int32{1}, Secret: []bool{true}, Out: []int{math.MaxInt}}: api.ErrArg,
		{Data: []int32{1}, Secret: []bool{true}, In: []int{0, 0}}:         api.ErrTwice,
		{Code: make([]uint32, 16385)}:                                     api.ErrLong,
		{Data: make([]int32, 2049), Secret: make([]bool, 2049)}:           api.ErrLong,
		{In: make([]int, 256)}:                                            api.ErrLong,
		{Out: make([]int, 256)}:                                           api.ErrLong,
		// What is no instruction is told behind that.
		{Code: []uint32{0}, Data: []int32{1}}:                                                 api.ErrArg,
		{Code: []uint32{42<<26 + 1}, Data: []int32{1}, Secret: []bool{true}, In: []int{0, 0}}: api.ErrTwice,
	}
}

// noWords are words that are no instruction's, and why.
var noWords = map[uint32]api.Errno{
	0: api.ErrArg, 1: api.ErrArg, 7: api.ErrArg, 1<<26 - 1: api.ErrArg, 44 << 26: api.ErrArg, 63 << 26: api.ErrArg, 1<<32 - 1: api.ErrArg,
	43<<26 + 1: api.ErrForm, 42<<26 + 1<<25: api.ErrForm, 1<<26 + 1: api.ErrForm, 1<<26 + 1<<10: api.ErrForm, 24<<26 + 1<<11: api.ErrForm, 33<<26 + 1<<16: api.ErrForm, 39<<26 + 1<<16: api.ErrForm, 39<<26 + 1<<21: api.ErrForm, 40<<26 + 1<<16: api.ErrForm, 41<<26 + 1: api.ErrForm,
}

// checkText holds that an image has a text.
func checkText(t *testing.T, m api.Image, want string) {
	t.Helper()
	if s, e := source.Text(m); s != want || e != api.OK {
		t.Fatalf("Text(%+v) = %q, %v, want %q", m, small(s), e, small(want))
	}
	checkTold(t, m)
}

// checkList holds that an image has a list.
func checkList(t *testing.T, words []uint32, want string) {
	t.Helper()
	m := api.Image{Code: words}
	if s, e := source.List(m); s != want || e != api.OK {
		t.Fatalf("List(%+v) = %q, %v, want %q", m, small(s), e, small(want))
	}
	checkTold(t, m)
}

// checkUntold holds that an image has no text, and why.
func checkUntold(t *testing.T, m api.Image, want api.Errno) {
	t.Helper()
	if s, e := source.Text(m); s != "" || e != want {
		t.Fatalf("Text(%+v) = %q, %v, want none, %v", m, small(s), e, want)
	}
	checkTold(t, m)
}

// P23.2

func TestTextByExactAnswers(t *testing.T) {
	checkText(t, api.Image{}, "")
	checkText(t, api.Image{Code: []uint32{}, Data: []int32{}, Secret: []bool{}, In: []int{}, Out: []int{}}, "")
	checkText(t, usual(), "secret 5\nword -1\nsecret -2147483648\nword 2147483647\nin 2\nin 0\nout 3\nout 3\nout 0\nlw r1 r0 0\nadd r2 r2 r1\naddi r1 r1 -1\nbne r1 r0 1\njump 5\nsw r2 r0 3\nhalt\n")
	checkText(t, api.Image{Code: []uint32{43 << 26}}, "halt\n")
	checkText(t, api.Image{Code: []uint32{31<<26 + 1<<21 + 2<<16 + 65535, 39<<26 + 65535, 40<<26 + 31<<21 + 65535, 38<<26 + 31<<21 + 30<<16 + 16384, 33<<26 + 65535}}, "addi r1 r2 -1\njump 65535\njal r31 65535\nblt r31 r30 16384\nlui r0 65535\n")
	checkText(t, dataOf(0, 0, -1), "word 0\nword 0\nword -1\n")
	checkText(t, api.Image{Data: []int32{0}, Secret: []bool{true}, In: []int{0}}, "secret 0\nin 0\n")
	checkText(t, api.Image{Data: []int32{0}, Secret: []bool{true}, Out: []int{0, 0}}, "secret 0\nout 0\nout 0\n")
}

func TestTextOfWordsOfData(t *testing.T) {
	c := chance{11}
	l := []int32{0, 1, -1, 9, 10, -9, -10, wordMax, wordMax - 1, wordMin, wordMin + 1}
	for n := 10; n < wordMax; n *= 10 {
		l = append(l, int32(n-1), int32(n), int32(n+1), int32(1-n), int32(-n), int32(-n-1))
	}
	for range 500 {
		l = append(l, int32(c.Below(1<<24)*256+c.Below(256)-1<<31))
	}
	for _, x := range l {
		checkText(t, dataOf(x), "word "+decimal(int(x))+"\n")
		checkText(t, api.Image{Data: []int32{x}, Secret: []bool{true}}, "secret "+decimal(int(x))+"\n")
	}
	checkTold(t, dataOf(l...))
}

func TestTextOfAddresses(t *testing.T) {
	m := dataOf(make([]int32, 2048)...)
	data := strings.Repeat("word 0\n", 2048)
	for _, a := range []int{0, 1, 9, 10, 99, 100, 255, 256, 999, 1000, 1023, 1024, 2046, 2047} {
		m.In, m.Out = []int{a}, nil
		checkText(t, m, data+"in "+decimal(a)+"\n")
		m.In, m.Out = nil, []int{a, 0, a}
		checkText(t, m, data+"out "+decimal(a)+"\nout 0\nout "+decimal(a)+"\n")
	}
}

func TestTextOfEachOperation(t *testing.T) {
	for op := 1; op <= 43; op++ {
		for _, fields := range [][4]int{chart.Least(op), chart.Greatest(op)} {
			checkText(t, api.Image{Code: []uint32{chart.Word(op, fields)}}, lineOf(op, fields)+"\n")
		}
	}
}

func TestTextOfWhatMayNotBe(t *testing.T) {
	for m, want := range refused() {
		checkUntold(t, *m, want)
	}
	for w, want := range noWords {
		checkUntold(t, api.Image{Code: []uint32{w}}, want)
		for other := range noWords {
			checkUntold(t, api.Image{Code: []uint32{43 << 26, w, other}}, want)
			checkUntold(t, api.Image{Code: []uint32{w, 43 << 26, other, 42 << 26}}, want)
		}
		m := usual()
		m.Code = append(m.Code, w)
		checkUntold(t, m, want)
	}
}

// P23.4

func TestListByExactAnswers(t *testing.T) {
	checkList(t, nil, "")
	checkList(t, []uint32{43 << 26}, "0 ac000000 halt\n")
	checkList(t, []uint32{0}, "0 00000000 ?\n")
	checkList(t, []uint32{39 << 26}, "0 9c000000 jump 0 < 0\n")
	checkList(t, []uint32{0xffffffff, 0x01234567, 0x89abcdef, 0xabadcafe}, "0 ffffffff ?\n1 01234567 ?\n2 89abcdef lw r13 r11 52719\n3 abadcafe ?\n")
	checkList(t, codeOf("jump 1", "beq r0 r0 0", "nop").Code, "0 9c000001 jump 1 < 1\n1 90000000 beq r0 r0 0 < 0\n2 a8000000 nop\n")
	checkList(t, append(codeOf("beq r1 r0 2", "jump 0", "bne r1 r0 0", "halt").Code, 7), "0 90200002 beq r1 r0 2 < 1 2\n1 9c000000 jump 0\n2 94200000 bne r1 r0 0 < 0\n3 ac000000 halt\n4 00000007 ?\n")
	checkList(t, append(codeOf("jump 5", "beq r1 r2 5", "bne r3 r4 5", "blt r5 r6 5", "jal r7 5").Code, 44<<26), "0 9c000005 jump 5\n1 90220005 beq r1 r2 5\n2 94640005 bne r3 r4 5\n3 98a60005 blt r5 r6 5\n4 a0e00005 jal r7 5\n5 b0000000 ? < 0 1 2 3 4\n")
	// Others that have the place as their N are not told.
	checkList(t, codeOf("lw r1 r0 0", "sw r1 r0 0", "addi r1 r0 0", "ori r1 r0 0", "lui r1 0", "jr r0", "halt").Code, "0 88200000 lw r1 r0 0\n1 8c200000 sw r1 r0 0\n2 7c200000 addi r1 r0 0\n3 80200000 ori r1 r0 0\n4 84200000 lui r1 0\n5 a4000000 jr r0\n6 ac000000 halt\n")
}

func TestListTellsNoDataAndNoAddresses(t *testing.T) {
	m := usual()
	want, _ := plainList(api.Image{Code: m.Code})
	if s, e := source.List(m); s != want || e != api.OK {
		t.Errorf("List = %q, %v, want %q", s, e, want)
	}
	if s, e := source.List(dataOf(1, 2, 3)); s != "" || e != api.OK {
		t.Errorf("List = %q, %v", s, e)
	}
}

func TestListOfPlacesBehindAllCode(t *testing.T) {
	checkList(t, codeOf("jump 1").Code, "0 9c000001 jump 1\n")
	checkList(t, codeOf("jump 2", "jump 65535", "jal r1 3", "beq r0 r0 16384").Code, "0 9c000002 jump 2\n1 9c00ffff jump 65535\n2 a0200003 jal r1 3 < 0\n3 90004000 beq r0 r0 16384 < 2\n")
}

func TestListOfEachWordThatIsNone(t *testing.T) {
	for w := range noWords {
		checkList(t, []uint32{w}, "0 "+sixteen(w)+" ?\n")
		checkList(t, []uint32{39<<26 + 2, 36<<26 + 2, w, w}, "0 9c000002 jump 2\n1 90000002 beq r0 r0 2\n2 "+sixteen(w)+" ? < 0 1\n3 "+sixteen(w)+" ?\n")
	}
}

func TestListOfEachOperation(t *testing.T) {
	for op := 1; op <= 43; op++ {
		for _, fields := range [][4]int{chart.Least(op), chart.Greatest(op)} {
			for n := range 5 {
				if chart.Shape(op)[3] != '-' {
					fields[3] = n
				}
				w := chart.Word(op, fields)
				checkTold(t, api.Image{Code: []uint32{w, w, 0, w, 43 << 26}})
				checkTold(t, api.Image{Code: []uint32{w}})
			}
		}
	}
}

func TestListOfOneBitEach(t *testing.T) {
	var m api.Image
	for k := range 32 {
		m.Code = append(m.Code, 1<<k, 1<<32-1-1<<k, 1<<k-1)
	}
	checkTold(t, m)
}

func TestListOfManySources(t *testing.T) {
	var m api.Image
	for range 16384 {
		m.Code = append(m.Code, 39<<26+9999)
	}
	s, e := source.List(m)
	if e != api.OK {
		t.Fatal(e)
	}
	l := linesOf(s)
	if len(l) != 16384 || l[9998] != "9998 9c00270f jump 9999" || l[16383] != "16383 9c00270f jump 9999" {
		t.Fatalf("%d lines", len(l))
	}
	words := wordsOf(l[9999])
	if len(words) != 5+16384 || words[4] != "<" {
		t.Fatalf("%d words", len(words))
	}
	for k, w := range words[5:] {
		if w != decimal(k) {
			t.Fatalf("place %d is %s", k, w)
		}
	}
}

func TestListOfWhatMayNotBe(t *testing.T) {
	for m, want := range refused() {
		if s, e := source.List(*m); s != "" || e != want {
			t.Errorf("List(%d words of code) = %q, %v, want none, %v", len(m.Code), small(s), e, want)
		}
	}
}

func TestAllShortCodes(t *testing.T) {
	var words []uint32
	for _, s := range []string{"jump 0", "jump 1", "jump 2", "beq r1 r0 1", "jal r1 2", "bne r0 r0 3", "blt r0 r1 0", "lw r1 r0 1", "halt"} {
		words = append(words, codeOf(s).Code...)
	}
	words = append(words, 0, 39<<26+1<<16)
	var do func(m api.Image, left int)
	do = func(m api.Image, left int) {
		checkTold(t, m)
		for _, w := range words {
			if left > 0 {
				do(api.Image{Code: append(slices.Clip(m.Code), w)}, left-1)
			}
		}
	}
	do(api.Image{}, 4)
}

// P23.3

// without are images without a pattern; most of them have a text.
func without(n int, do func(m api.Image)) {
	c := chance{99}
	for range n {
		var m api.Image
		size := c.Below(12)
		for range size {
			w := someWord(&c)
			if op, fields, _ := decoded(w); isAimer(op) && c.Below(4) > 0 {
				fields[3] = c.Below(size + 2)
				w = chart.Word(op, fields)
			}
			if c.Below(60) == 0 {
				w = uint32(c.Below(1<<24)*256 + c.Below(256))
			}
			m.Code = append(m.Code, w)
		}
		size = 1 + c.Below(20)
		for range size {
			m.Data = append(m.Data, int32(c.Below(1<<24)*256+c.Below(256)-1<<31))
			m.Secret = append(m.Secret, c.Below(2) == 1)
		}
		for range c.Below(4) {
			m.In = append(m.In, c.Below(size))
		}
		for range c.Below(9) {
			m.Out = append(m.Out, c.Below(size+c.Below(40)/39))
		}
		do(m)
	}
}

func TestThereAndBack(t *testing.T) {
	for _, m := range []api.Image{{}, usual(), most(), codeOf("jump 65535"), dataOf(wordMin, wordMax, -999999999, 1000000000)} {
		if e := checkTold(t, m); e != api.OK {
			t.Errorf("%v was told", e)
		}
		s, e := source.Text(m)
		if e != api.OK {
			t.Fatal(e)
		}
		checkParsed(t, s, m, len(linesOf(s)))
		again, _, _ := source.Parse(s)
		if other, e := source.Text(again); other != s || e != api.OK {
			t.Errorf("%q was parsed, and told as %q, %v", small(s), small(other), e)
		}
	}
}

func TestThereAndBackWithoutAPattern(t *testing.T) {
	told := map[api.Errno]int{}
	without(20000, func(m api.Image) { told[checkTold(t, m)]++ })
	for _, e := range []api.Errno{api.OK, api.ErrArg, api.ErrForm, api.ErrTwice} {
		if told[e] < 100 {
			t.Errorf("%v was told of %d images", e, told[e])
		}
	}
}

func TestThereAndBackOfInstructions(t *testing.T) {
	var m api.Image
	for i := range chart.Some {
		m.Code = append(m.Code, chart.Word(i.Op, [4]int{i.D, i.A, i.B, i.N}))
		if len(m.Code) == api.MaxCode {
			checkBack(t, m)
			m.Code = nil
		}
	}
	checkBack(t, m)
}

// checkBack holds that an image is parsed of its text.
func checkBack(t *testing.T, m api.Image) {
	t.Helper()
	s, e := source.Text(m)
	if e != api.OK {
		t.Fatal(e)
	}
	checkParsed(t, s, m, len(m.Data)+len(m.In)+len(m.Out)+len(m.Code))
}

// What a text with names, remarks and blanks is parsed to has a text without them, which is parsed to the same.
func TestTextsOfOtherTexts(t *testing.T) {
	c := chance{5}
	n := 0
	for range 5000 {
		s := "word 1\nsecret 2\nword 3\nword 4\n"
		for range c.Below(20) {
			s += strings.Repeat(" ", c.Below(2)) + someLine(&c) + "\n"
		}
		m, _, e := source.Parse(s)
		if e != api.OK {
			continue
		}
		n++
		if e := checkTold(t, m); e != api.OK {
			t.Fatalf("of %q there is no text: %v", s, e)
		}
	}
	if n < 100 {
		t.Errorf("%d texts", n)
	}
}

// What is kept and shared.

// spoil changes all that an image's lists hold, and what they have room for.
func spoil(m api.Image) {
	for k := range m.Code[:cap(m.Code)] {
		m.Code[:cap(m.Code)][k] ^= 1<<32 - 1
	}
	for k := range m.Data[:cap(m.Data)] {
		m.Data[:cap(m.Data)][k] ^= -1
	}
	for k := range m.Secret[:cap(m.Secret)] {
		m.Secret[:cap(m.Secret)][k] = !m.Secret[:cap(m.Secret)][k]
	}
	spoilAddresses(m.In)
	spoilAddresses(m.Out)
}

func spoilAddresses(l []int) {
	for k := range l[:cap(l)] {
		l[:cap(l)][k] = -7
	}
}

func TestAnswersAreNewMemory(t *testing.T) {
	want := usual()
	s, _ := plainText(want)
	first, _, _ := source.Parse(s)
	second, _, _ := source.Parse(s)
	spoil(first)
	if !alike(second, want) {
		t.Errorf("one answer changed another one to %+v", second)
	}
	checkParsed(t, s, want, 16)
	third, _, _ := source.Parse(s)
	spoilAddresses(third.In)
	if !slices.Equal(third.Out, want.Out) {
		t.Errorf("In changed Out to %v", third.Out)
	}
	third, _, _ = source.Parse(s)
	spoilAddresses(third.Out)
	if !slices.Equal(third.In, want.In) {
		t.Errorf("Out changed In to %v", third.In)
	}
	// A text and a list stay as they were, whatever the image comes to be.
	m := usual()
	text, _ := source.Text(m)
	list, _ := source.List(m)
	told, _ := plainList(want)
	spoil(m)
	if text != s || list != told {
		t.Errorf("what was handed in changed the answers to %q, %q", text, list)
	}
}

func TestNothingIsKept(t *testing.T) {
	s, _ := plainText(usual())
	list, _ := plainList(usual())
	for _, other := range []string{"", "a:\nb:\njump @a", "jump @b", "a:\na:", "word 1\nin 0\nout 0\nnop", "in 0", strings.Repeat("nop\n", 16385), "wrong", sum} {
		checkPlain(t, other)
		checkPlain(t, other)
		checkRefused(t, "jump @a", 0, api.ErrNone)
		checkParsed(t, "a:", api.Image{}, 1)
		checkParsed(t, s, usual(), 16)
	}
	for m := range refused() {
		if _, e := source.Text(*m); e == api.OK {
			t.Error("it has a text")
		}
		checkText(t, usual(), s)
		if got, e := source.List(usual()); got != list || e != api.OK {
			t.Errorf("List = %q, %v", got, e)
		}
	}
}

// What is parsed is run by the core.
func TestATextIsRun(t *testing.T) {
	for n := 1; n < 50; n++ {
		m, _, e := source.Parse(strings.Replace(sum, "secret 5", "secret "+decimal(n), 1))
		if e != api.OK {
			t.Fatal(e)
		}
		c, e := core.New(m.Code, m.Data)
		if e != api.OK {
			t.Fatal(e)
		}
		c.Run(api.MaxFuel)
		if x, ok := c.Load(m.Out[0]); x != int32(n*(n+1)/2) || !ok || c.State() != api.Halted {
			t.Errorf("up to %d it is %d, %v, with %d at %d", n, x, ok, c.State(), c.PC())
		}
	}
}

func TestBytesAndTextsAreOfOneImage(t *testing.T) {
	for _, m := range []api.Image{{}, usual(), most()} {
		b, e := image.Put(m)
		if e != api.OK {
			t.Fatal(e)
		}
		got, e := image.Get(b)
		if e != api.OK {
			t.Fatal(e)
		}
		checkBack(t, got)
	}
}
