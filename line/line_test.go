package line_test

import (
	"slices"
	"strings"
	"testing"
	"unsafe"

	"astrolabe/api"
	"astrolabe/chart"
	"astrolabe/code"
	"astrolabe/line"
)

// The reckoning of the tests is the chapter's, byte by byte and digit by digit.

// has are the letters of the fields that an operation has.
func has(op int) string { return strings.ReplaceAll(chart.Shape(op), "-", "") }

// unlike are an operation's fields, no two of which are the same.
func unlike(op int) [4]int {
	l := [4]int{1, 22, 13, 1234}
	for k := range l {
		if chart.Shape(op)[k] == '-' {
			l[k] = 0
		}
	}
	return l
}

// usual are fields of an operation that may be.
func usual(op int) [][4]int { return [][4]int{{}, chart.Least(op), chart.Greatest(op), unlike(op)} }

// decimal is a number's, digit by digit.
func decimal(n int) string {
	switch {
	case n < 0:
		return "-" + decimal(-n)
	case n < 10:
		return "0123456789"[n : n+1]
	}
	return decimal(n/10) + decimal(n%10)
}

// operand is the word of a letter's field.
func operand(letter byte, x int) string {
	if letter == 's' || letter == 'u' {
		return decimal(x)
	}
	return "r" + decimal(x)
}

// wordsOf are those of an instruction's line.
func wordsOf(op int, fields [4]int) []string {
	l := []string{chart.Name(op)}
	for k, x := range fields {
		if letter := chart.Shape(op)[k]; letter != '-' {
			l = append(l, operand(letter, x))
		}
	}
	return l
}

// lineOf is an instruction's line.
func lineOf(op int, fields [4]int) string { return strings.Join(wordsOf(op, fields), " ") }

// beyond are numbers with words that a letter does not allow.
func beyond(letter byte) []int {
	return slices.DeleteFunc(chart.Beyond(letter), func(x int) bool { return x < -999999999 || x > 999999999 })
}

// checkWords holds that words are the ones wanted.
func checkWords(t *testing.T, s string, want ...string) {
	t.Helper()
	if got := line.Words(s); !slices.Equal(got, want) {
		t.Errorf("Words(%q) = %q, want %q", s, got, want)
	}
}

// checkNumber holds that a text is a number's decimal.
func checkNumber(t *testing.T, s string, want int) {
	t.Helper()
	if n, ok := line.Number(s); n != want || !ok {
		t.Errorf("Number(%q) = %d, %v, want %d", s, n, ok, want)
	}
}

// checkNoNumber holds that a text is no decimal.
func checkNoNumber(t *testing.T, s string) {
	t.Helper()
	if n, ok := line.Number(s); n != 0 || ok {
		t.Errorf("Number(%q) = %d, %v, want none", s, n, ok)
	}
}

// checkParsed holds that a line is an instruction's.
func checkParsed(t *testing.T, s string, want api.Ins) {
	t.Helper()
	if i, e := line.Parse(s); i != want || e != api.OK {
		t.Fatalf("Parse(%q) = %+v, %v, want %+v", s, i, e, want)
	}
}

// checkRefused holds that a line is no instruction's, and why.
func checkRefused(t *testing.T, s string, want api.Errno) {
	t.Helper()
	if i, e := line.Parse(s); i != (api.Ins{}) || e != want {
		t.Fatalf("Parse(%q) = %+v, %v, want none, %v", s, i, e, want)
	}
}

// checkLine holds that an instruction has a line, and is parsed of it.
func checkLine(t *testing.T, op int, fields [4]int) {
	t.Helper()
	i, want := chart.Ins(op, fields), lineOf(op, fields)
	s, e := line.Text(i)
	if s != want || e != api.OK {
		t.Fatalf("Text(%+v) = %q, %v, want %q", i, s, e, want)
	}
	checkParsed(t, s, i)
}

// texts are all of some pieces, with up to most of them.
func texts(pieces []string, most int) []string {
	all, last := []string{""}, []string{""}
	for range most {
		var next []string
		for _, s := range last {
			for _, p := range pieces {
				next = append(next, s+p)
			}
		}
		all, last = append(all, next...), next
	}
	return all
}

// P14.1: Words

func TestWordsByExactAnswers(t *testing.T) {
	for _, s := range []string{"", " ", "  ", "          "} {
		checkWords(t, s)
	}
	for _, s := range []string{"add", " add", "add ", "   add", "add   ", "  add  "} {
		checkWords(t, s, "add")
	}
	for _, s := range []string{"add r1 -5", " add r1 -5 ", "add  r1   -5", "    add  r1 -5      "} {
		checkWords(t, s, "add", "r1", "-5")
	}
	checkWords(t, "b a b a", "b", "a", "b", "a")
	checkWords(t, " a b  c   d    e", "a", "b", "c", "d", "e")
	checkWords(t, "aB ,; #x @y: -", "aB", ",;", "#x", "@y:", "-")
}

func TestWordsOfOtherWhite(t *testing.T) {
	for _, s := range []string{"\t", "\n", "\r\n", "\v\f", "\t\t", "\x00", "\u00a0", "\u0085", "\u2003", "\u3000", "\x85", "\xa0", "\xc0\xa0", "\xe2\x80", "\ufeff", "é", "日本"} {
		checkWords(t, s, s)
		checkWords(t, " "+s+"  ", s)
		checkWords(t, "a"+s+"b", "a"+s+"b")
		checkWords(t, "a "+s+" b", "a", s, "b")
		checkWords(t, s+" "+s, s, s)
	}
	checkWords(t, "a\tb c\nd", "a\tb", "c\nd")
}

func TestWordsAreNotOfOtherBytes(t *testing.T) {
	for b := range 256 {
		s := string([]byte{byte(b)})
		if b == 32 {
			checkWords(t, "a"+s+"c", "a", "c")
			checkWords(t, s)
			continue
		}
		checkWords(t, s, s)
		checkWords(t, "a"+s+"c", "a"+s+"c")
		checkWords(t, s+s+" "+s, s+s, s)
	}
}

// plainWords are those of a text, byte by byte.
func plainWords(s string) []string {
	var l []string
	var word []byte
	for k := 0; k <= len(s); k++ {
		if k < len(s) && s[k] != 32 {
			word = append(word, s[k])
			continue
		}
		if len(word) > 0 {
			l = append(l, string(word))
			word = nil
		}
	}
	return l
}

func TestWordsOfAllShortTexts(t *testing.T) {
	for _, s := range texts([]string{" ", "a", "\t", "\xa0", "\xc2"}, 6) {
		checkWords(t, s, plainWords(s)...)
	}
}

func TestWordsOfLongTexts(t *testing.T) {
	const many = 100000
	words := line.Words(strings.Repeat("  ab   c", many))
	if len(words) != 2*many {
		t.Fatalf("%d words, want %d", len(words), 2*many)
	}
	for k, w := range words {
		if want := []string{"ab", "c"}[k%2]; w != want {
			t.Fatalf("word %d is %q, want %q", k, w, want)
		}
	}
	long := strings.Repeat("x", many)
	checkWords(t, " "+long+" "+long+"y", long, long+"y")
}

func TestWordsAreNewMemory(t *testing.T) {
	s := strings.Repeat("ab cd ", 3)
	low := uintptr(unsafe.Pointer(unsafe.StringData(s)))
	words := line.Words(s)
	for _, w := range words {
		if at := uintptr(unsafe.Pointer(unsafe.StringData(w))); at >= low && at < low+uintptr(len(s)) {
			t.Errorf("the word %q shares memory with the text", w)
		}
	}
	words[0], words[5] = "x", "y"
	checkWords(t, s, "ab", "cd", "ab", "cd", "ab", "cd")
}

// P14.1: Number

func TestNumberByExactAnswers(t *testing.T) {
	for s, n := range map[string]int{
		"0": 0, "1": 1, "-1": -1, "9": 9, "-9": -9, "10": 10, "-10": -10, "100": 100, "40": 40, "-5": -5, "65535": 65535, "-32768": -32768,
		"100000000": 100000000, "123456789": 123456789, "-123456789": -123456789, "999999999": 999999999, "-999999999": -999999999, "900000001": 900000001,
	} {
		checkNumber(t, s, n)
	}
}

func TestNumberOfNoDecimals(t *testing.T) {
	for _, s := range []string{
		"", "-", "--", "+", "-0", "-00", "00", "01", "-01", "000", "001", "010", "-010", "0000000000", "00000000000000000001", "0123456789", "012345678",
		"1000000000", "-1000000000", "1234567890", "-1234567890", "2147483647", "4294967297", "9999999999", "10000000000", "99999999999999999999", "-99999999999999999999",
		"9223372036854775807", "-9223372036854775808", "9223372036854775808", "18446744073709551616", "18446744073709551617", "340282366920938463463374607431768211457",
		"+0", "+1", "+-1", "-+1", "--1", "1-", "1+", "-1-", "1-1", " ", " 1", "1 ", " 1 ", "- 1", " -1", "-1 ", "1 2", "\t1", "1\n", "1\x00", "\x001",
		"a", "1a", "a1", "r1", "0x1", "0b1", "0o7", "1_0", "1_000", "_1", "1_", "1.0", "1.", ".1", "1e3", "1E3", "1,000", "Inf", "nan", "१", "١", "１", "−1", "–1", "½", "²", "\xff", "1\xff", "0-", "0 ",
	} {
		checkNoNumber(t, s)
	}
}

// plainNumber is the number whose decimal a text is, digit by digit.
func plainNumber(s string) (int, bool) {
	below := len(s) > 0 && s[0] == '-'
	digits := s
	if below {
		digits = s[1:]
	}
	if len(digits) == 0 || len(digits) > 9 || digits[0] == '0' && (below || len(digits) > 1) {
		return 0, false
	}
	n := 0
	for k := range len(digits) {
		d := strings.IndexByte("0123456789", digits[k])
		if d < 0 {
			return 0, false
		}
		n = 10*n + d
	}
	if below {
		n = -n
	}
	return n, true
}

// checkPlainNumber holds what a text is, digit by digit.
func checkPlainNumber(t *testing.T, s string) bool {
	t.Helper()
	n, ok := plainNumber(s)
	if ok {
		checkNumber(t, s, n)
	} else {
		checkNoNumber(t, s)
	}
	return ok
}

func TestNumberOfAllShortTexts(t *testing.T) {
	decimals := 0
	for _, s := range texts([]string{"-", "+", " ", "0", "1", "2", "9", "a", "_", "."}, 5) {
		if checkPlainNumber(t, s) {
			decimals++
		}
	}
	// 0, and up to five of four digits of which the first is not 0, and up to four of them with - ahead.
	if want := 1 + (3 + 3*4 + 3*16 + 3*64 + 3*256) + (3 + 3*4 + 3*16 + 3*64); decimals != want {
		t.Errorf("%d decimals, want %d", decimals, want)
	}
}

func TestNumberWithEachByte(t *testing.T) {
	for b := range 256 {
		c := string([]byte{byte(b)})
		for _, s := range []string{c, c + c, c + "5", "5" + c, "5" + c + "5", c + "0", "0" + c, "-" + c, "-5" + c, c + "-5", "-" + c + "5", c + "12345678", "12345678" + c, "1234" + c + "5678", c + "123456789", "123456789" + c, "-123456789" + c, "-12345678" + c} {
			checkPlainNumber(t, s)
		}
	}
}

func TestNumberOfEachCountOfDigits(t *testing.T) {
	for digit := 1; digit <= 9; digit++ {
		n := 0
		for count := 1; count <= 40; count++ {
			s := strings.Repeat(decimal(digit), count)
			if count > 9 {
				checkNoNumber(t, s)
				checkNoNumber(t, "-"+s)
				continue
			}
			n = 10*n + digit
			checkNumber(t, s, n)
			checkNumber(t, "-"+s, -n)
			checkNoNumber(t, "0"+s)
			checkNoNumber(t, "-0"+s)
			checkNoNumber(t, "+"+s)
		}
	}
	for _, digit := range []string{"0", "1", "-", " "} {
		checkNoNumber(t, strings.Repeat(digit, 100000))
	}
}

func TestNumberOfDecimals(t *testing.T) {
	look := func(n int) {
		checkNumber(t, decimal(n), n)
		checkNumber(t, decimal(-n), -n)
	}
	for n := range 20000 {
		look(n)
	}
	for p := 10; p <= 1000000000; p *= 10 {
		for n := max(p-100, 0); n < min(p+100, 1000000000); n++ {
			look(n)
		}
	}
	n := 1
	for range 20000 {
		n = (n*1103515245 + 12345) % 1000000000
		look(n)
	}
}

// P14.2: Text

func TestLinesOfTheTests(t *testing.T) {
	if decimal(-1203) != "-1203" || decimal(0) != "0" || lineOf(api.OpAddi, [4]int{10, 20, 0, -30}) != "addi r10 r20 -30" {
		t.Fatal("lines of the tests are not as told")
	}
}

func TestTextByExactAnswers(t *testing.T) {
	for _, x := range []struct {
		i api.Ins
		s string
	}{
		{api.Ins{Op: api.OpAdd}, "add r0 r0 r0"},
		{api.Ins{Op: api.OpAdd, D: 1, A: 2, B: 3}, "add r1 r2 r3"},
		{api.Ins{Op: api.OpSltu, D: 31, A: 30, B: 29}, "sltu r31 r30 r29"},
		{api.Ins{Op: api.OpRem, D: 10, A: 0, B: 9}, "rem r10 r0 r9"},
		{api.Ins{Op: api.OpClz, D: 3, A: 4}, "clz r3 r4"},
		{api.Ins{Op: api.OpHigh, D: 31, A: 31}, "high r31 r31"},
		{api.Ins{Op: api.OpAddi}, "addi r0 r0 0"},
		{api.Ins{Op: api.OpAddi, D: 1, A: 2, N: -32768}, "addi r1 r2 -32768"},
		{api.Ins{Op: api.OpAddi, D: 1, A: 2, N: 32767}, "addi r1 r2 32767"},
		{api.Ins{Op: api.OpOri, D: 1, A: 2, N: 65535}, "ori r1 r2 65535"},
		{api.Ins{Op: api.OpLui, D: 9, N: 65535}, "lui r9 65535"},
		{api.Ins{Op: api.OpSw, D: 5, A: 6, N: 1024}, "sw r5 r6 1024"},
		{api.Ins{Op: api.OpBlt, D: 7, A: 8, N: 10}, "blt r7 r8 10"},
		{api.Ins{Op: api.OpJump}, "jump 0"},
		{api.Ins{Op: api.OpJump, N: 16383}, "jump 16383"},
		{api.Ins{Op: api.OpJal, D: 31, N: 1}, "jal r31 1"},
		{api.Ins{Op: api.OpJr, A: 31}, "jr r31"},
		{api.Ins{Op: api.OpNop}, "nop"},
		{api.Ins{Op: api.OpHalt}, "halt"},
	} {
		if s, e := line.Text(x.i); s != x.s || e != api.OK {
			t.Errorf("Text(%+v) = %q, %v, want %q", x.i, s, e, x.s)
		}
		checkParsed(t, x.s, x.i)
	}
}

func TestTextOfEachOperation(t *testing.T) {
	for op := 1; op <= 43; op++ {
		for _, fields := range usual(op) {
			checkLine(t, op, fields)
		}
	}
}

// checkNoLine holds that an instruction has no line, and why.
func checkNoLine(t *testing.T, i api.Ins, want api.Errno) {
	t.Helper()
	if s, e := line.Text(i); s != "" || e != want || e != code.Check(i) {
		t.Errorf("Text(%+v) = %q, %v, want none, %v", i, s, e, want)
	}
}

func TestTextOfNoOperation(t *testing.T) {
	for _, op := range chart.Others() {
		for _, fields := range [][4]int{{}, {1, 2, 3, 0}, {1, 2, 0, 3}, {-1, -1, -1, -1}, {32, 0, 0, 65536}} {
			checkNoLine(t, chart.Ins(op, fields), api.ErrArg)
		}
	}
}

func TestTextOfWhatMayNotBe(t *testing.T) {
	for op := 1; op <= 43; op++ {
		for k, letter := range []byte(chart.Shape(op)) {
			want := api.ErrRange
			if letter == '-' {
				want = api.ErrForm
			}
			for _, x := range chart.Beyond(letter) {
				for _, fields := range usual(op) {
					fields[k] = x
					checkNoLine(t, chart.Ins(op, fields), want)
				}
			}
		}
	}
}

func TestTextOfTwoWrongFields(t *testing.T) {
	for _, x := range []struct {
		i api.Ins
		e api.Errno
	}{
		{api.Ins{Op: api.OpAdd, D: 32, N: 1}, api.ErrRange},
		{api.Ins{Op: api.OpAdd, B: -1, N: -1}, api.ErrRange},
		{api.Ins{Op: api.OpLui, A: 1, N: 65536}, api.ErrForm},
		{api.Ins{Op: api.OpJump, D: 1, N: -1}, api.ErrForm},
		{api.Ins{Op: api.OpJr, D: 1, A: 32}, api.ErrForm},
		{api.Ins{Op: api.OpJr, A: 32, B: 1}, api.ErrRange},
	} {
		checkNoLine(t, x.i, x.e)
	}
}

// P14.2: Parse

func TestParseOfNoWords(t *testing.T) {
	for _, s := range []string{"", " ", "   ", strings.Repeat(" ", 1000)} {
		checkRefused(t, s, api.ErrForm)
	}
}

func TestParseOfBlanks(t *testing.T) {
	for op := 1; op <= 43; op++ {
		for _, fields := range usual(op) {
			words, i := wordsOf(op, fields), chart.Ins(op, fields)
			for _, between := range []string{" ", "  ", "     "} {
				s := strings.Join(words, between)
				for _, ahead := range []string{"", " ", "   "} {
					for _, behind := range []string{"", " ", "    "} {
						checkParsed(t, ahead+s+behind, i)
					}
				}
			}
		}
	}
	checkParsed(t, "   add r1  r2     r3 ", api.Ins{Op: api.OpAdd, D: 1, A: 2, B: 3})
}

func TestParseOfOtherWhite(t *testing.T) {
	for op := 1; op <= 43; op++ {
		s := lineOf(op, unlike(op))
		for _, white := range []string{"\t", "\n", "\r", "\v", "\f", "\x00", "\u00a0", "\xa0", "\u0085"} {
			checkRefused(t, white+s, api.ErrForm)
			checkRefused(t, s+white, api.ErrForm)
			checkRefused(t, white+" "+s, api.ErrForm)
			checkRefused(t, s+" "+white, api.ErrForm)
			for k := range s {
				if s[k] == ' ' {
					checkRefused(t, s[:k]+white+s[k+1:], api.ErrForm)
					checkRefused(t, s[:k]+white+s[k:], api.ErrForm)
					checkRefused(t, s[:k]+" "+white+s[k:], api.ErrForm)
				}
			}
		}
	}
}

func TestParseOfNamesThatAreNone(t *testing.T) {
	for op := 1; op <= 43; op++ {
		name, operands, _ := strings.Cut(lineOf(op, unlike(op))+" ", " ")
		wrong := []string{strings.ToUpper(name), strings.ToUpper(name[:1]) + name[1:], name[:1] + strings.ToUpper(name[1:])}
		for k := 1; k < len(name); k++ {
			wrong = append(wrong, name[:k], name[k:])
		}
		for b := range 256 {
			if b != 32 {
				c := string([]byte{byte(b)})
				wrong = append(wrong, name+c, c+name)
			}
		}
		for _, w := range wrong {
			if find(w) == 0 {
				checkRefused(t, w, api.ErrForm)
				checkRefused(t, w+" "+operands, api.ErrForm)
			}
		}
	}
	for _, s := range []string{"a", "r1", "1", "0", "-", "dab-", "#", "word 1", "load r1 r0 4", "r1 r2 r3", "r1 add r2 r3", "add,r1,r2,r3", "addr1r2r3", "@a", "a:", "лw r1 r0 4"} {
		checkRefused(t, s, api.ErrForm)
	}
}

func TestParseOfAnotherCountOfWords(t *testing.T) {
	for op := 1; op <= 43; op++ {
		for _, fields := range usual(op) {
			words := wordsOf(op, fields)
			for count := 1; count < len(words); count++ {
				checkRefused(t, strings.Join(words[:count], " "), api.ErrForm)
				checkRefused(t, strings.Join(words[:count], "  ")+"  ", api.ErrForm)
			}
			for _, more := range []string{"r0", "r1", "0", "1", "-", "add", "x", "#", "# r1", "0 0", "r1 r2 r3 r4 r5"} {
				checkRefused(t, strings.Join(words, " ")+" "+more, api.ErrForm)
			}
			for k := 1; k < len(words); k++ {
				checkRefused(t, strings.Join(slices.Delete(slices.Clone(words), k, k+1), " "), api.ErrForm)
				checkRefused(t, strings.Join(slices.Insert(slices.Clone(words), k, words[k]), " "), api.ErrForm)
			}
		}
	}
}

// noRegisters are words that are no register's.
func noRegisters() []string {
	return []string{
		"r", "R", "R1", "R0", "R-1", "r01", "r00", "r-0", "r-00", "r-01", "r--1", "r-+1", "r+-1", "-r1", "-r-1", "r-r1", "r-1r", "r-a", "r-1-", "r+1", "r-", "r+", "rr", "rr1", "1r", "r1r", "r1,", ",r1", "r1:", "r1.", "r1.0", "r1e1", "r0x1", "r1_0", "r_1", "ra", "r1a", "x1", "d1", "a1", "$1", "%r1", "[r1]", "(r1)",
		"0", "1", "-1", "31", "01", "-", "@a", "r\t1", "\tr1", "r1\t", "r1\n", "r\x001", "r1\xa0", "r1\u00a0", "r１", "ｒ1", "r١", "r1000000000", "r-1000000000", "r1234567890", "r-1234567890", "r4294967296", "r-4294967295", "r-18446744073709551615", "r18446744073709551616", "r00000000000", "r" + strings.Repeat("1", 1000),
	}
}

// noNumbers are words that are no decimals.
func noNumbers() []string {
	return []string{
		"r", "r0", "r1", "r-1", "R1", "01", "00", "-0", "-00", "-01", "+0", "+1", "-", "+", "--1", "1-", "-+1", "1,", "1.", "1.0", ".1", "1e1", "0x1", "0b1", "1_0", "a", "1a", "a1", "@a", "a:", "\t1", "1\t", "1\n", "\x001", "1\xa0", "1\u00a0", "１", "١",
		"1000000000", "-1000000000", "1234567890", "4294967296", "18446744073709551616", "-18446744073709551616", strings.Repeat("0", 1000), strings.Repeat("1", 1000),
	}
}

func TestParseOfWordsThatAreNoOperands(t *testing.T) {
	for op := 1; op <= 43; op++ {
		for _, fields := range usual(op) {
			for k, letter := range []byte(has(op)) {
				wrong := noRegisters()
				if letter == 's' || letter == 'u' {
					wrong = noNumbers()
				}
				for _, w := range wrong {
					words := wordsOf(op, fields)
					words[k+1] = w
					checkRefused(t, strings.Join(words, " "), api.ErrForm)
				}
			}
		}
	}
}

func TestParseBeyondBounds(t *testing.T) {
	for op := 1; op <= 43; op++ {
		for _, fields := range usual(op) {
			for k, letter := range []byte(has(op)) {
				for _, x := range beyond(letter) {
					words := wordsOf(op, fields)
					words[k+1] = operand(letter, x)
					checkRefused(t, strings.Join(words, " "), api.ErrRange)
					checkRefused(t, "  "+strings.Join(words, "   ")+" ", api.ErrRange)
				}
			}
		}
	}
}

func TestParseOfRegistersBelowNought(t *testing.T) {
	for s, e := range map[string]api.Errno{
		"lui r-1 2": api.ErrRange, "max r-1 r1 r0": api.ErrRange, "addi r1 r-1 6": api.ErrRange, "mask r1 r-1": api.ErrRange, "and r1 r2 r-7": api.ErrRange, "jr r-999999999": api.ErrRange, "lw r-31 r-32 40": api.ErrRange, "xor r-1 r-1 r-1": api.ErrRange,
		"lui r-0 2": api.ErrForm, "lui r-01 2": api.ErrForm, "lui r- 2": api.ErrForm, "lui -1 2": api.ErrForm, "lui r--1 2": api.ErrForm, "lui r-1234567890 2": api.ErrForm,
	} {
		checkRefused(t, s, e)
	}
	for op := 1; op <= 43; op++ {
		for k, letter := range []byte(has(op)) {
			for _, n := range []int{-1, -2, -7, -31, -32, -100, -65536, -999999999} {
				if letter == 's' || letter == 'u' {
					continue
				}
				for _, fields := range usual(op) {
					words := wordsOf(op, fields)
					words[k+1] = operand(letter, n)
					s := strings.Join(words, " ")
					checkRefused(t, s, api.ErrRange)
					checkRefused(t, s+" r1", api.ErrForm)
					checkRefused(t, s+" x", api.ErrForm)
					checkRefused(t, strings.Join(words[:len(words)-1], " "), api.ErrForm)
				}
			}
		}
	}
}

func TestParseOfTwoErrors(t *testing.T) {
	for op := 1; op <= 43; op++ {
		shape := has(op)
		for k := range shape {
			words := wordsOf(op, unlike(op))
			words[k+1] = operand(shape[k], beyond(shape[k])[0])
			checkRefused(t, strings.Join(words, " ")+" r0", api.ErrForm)
			checkRefused(t, strings.Join(words, " ")+" 0", api.ErrForm)
			checkRefused(t, strings.Join(words[:len(words)-1], " "), api.ErrForm)
			checkRefused(t, "X"+strings.Join(words, " "), api.ErrForm)
			for l := range shape {
				if l == k {
					continue
				}
				both := slices.Clone(words)
				both[l+1] = operand(shape[l], beyond(shape[l])[1])
				checkRefused(t, strings.Join(both, " "), api.ErrRange)
				both[l+1] = "x"
				checkRefused(t, strings.Join(both, " "), api.ErrForm)
			}
		}
	}
	for s, e := range map[string]api.Errno{
		"add r-1 r1 x": api.ErrForm, "add r-1 r-1 3": api.ErrForm, "lui r-1": api.ErrForm, "lui r-1 2 3": api.ErrForm, "lui r-1 -0": api.ErrForm, "lui r-1 -1": api.ErrRange, "jr r-1 r1": api.ErrForm, "halt r-1": api.ErrForm,
		"add r32 r2": api.ErrForm, "add r32 r2 3": api.ErrForm, "lui r32 -1": api.ErrRange, "lui r32 -0": api.ErrForm, "lui r 65536": api.ErrForm, "jump 65536 r1": api.ErrForm, "jr r32 r1": api.ErrForm, "halt r32": api.ErrForm, "addi r1 r99 -32769": api.ErrRange,
	} {
		checkRefused(t, s, e)
	}
}

// find is the operation of a name, or 0.
func find(name string) int {
	for op := 1; op <= 43; op++ {
		if chart.Name(op) == name {
			return op
		}
	}
	return 0
}

// plainOperand is what a word is as a letter's operand, whatever its number is.
func plainOperand(letter byte, word string) (int, bool) {
	if letter == 's' || letter == 'u' {
		return plainNumber(word)
	}
	if len(word) == 0 || word[0] != 'r' {
		return 0, false
	}
	return plainNumber(word[1:])
}

// plainParse is a line's instruction as the chapter tells it.
func plainParse(s string) (api.Ins, api.Errno) {
	words := plainWords(s)
	if len(words) == 0 || find(words[0]) == 0 {
		return api.Ins{}, api.ErrForm
	}
	op := find(words[0])
	if len(words) != 1+len(has(op)) {
		return api.Ins{}, api.ErrForm
	}
	var fields [4]int
	next, beyond := 1, false
	for k, letter := range []byte(chart.Shape(op)) {
		if letter == '-' {
			continue
		}
		n, ok := plainOperand(letter, words[next])
		if !ok {
			return api.Ins{}, api.ErrForm
		}
		low, high := chart.Bounds(letter)
		fields[k], beyond = n, beyond || n < low || n > high
		next++
	}
	if beyond {
		return api.Ins{}, api.ErrRange
	}
	return chart.Ins(op, fields), api.OK
}

func TestParseOfAllShortLines(t *testing.T) {
	told := map[api.Errno]int{}
	for _, operands := range texts([]string{" r1", " r31", " r32", " r-1", " 5", " -1", " 65536", " x", " halt", " "}, 4) {
		for _, name := range []string{"add", "clz", "addi", "lw", "lui", "jump", "jal", "jr", "halt", "", "r1"} {
			s := name + operands
			i, e := plainParse(s)
			told[e]++
			if got, f := line.Parse(s); got != i || f != e {
				t.Fatalf("Parse(%q) = %+v, %v, want %+v, %v", s, got, f, i, e)
			}
		}
	}
	if len(told) != 3 || told[api.OK] < 200 || told[api.ErrRange] < 200 {
		t.Errorf("answers: %v", told)
	}
}

func TestParseOfBytesWithoutPattern(t *testing.T) {
	const bytes = "r r r 0123-+ adlwjump\t\xff"
	x := uint32(1)
	for range 20000 {
		s := []byte("addi r1 r2 -35")
		for range 2 {
			x = x*1664525 + 1013904223
			s[x>>16%uint32(len(s))] = bytes[x>>8%uint32(len(bytes))]
		}
		i, e := plainParse(string(s))
		if got, f := line.Parse(string(s)); got != i || f != e {
			t.Fatalf("Parse(%q) = %+v, %v, want %+v, %v", s, got, f, i, e)
		}
	}
}

// P14.3

func TestThereAndBackOfAllNumbers(t *testing.T) {
	for op := 1; op <= 43; op++ {
		low, high := chart.Bounds(chart.Shape(op)[3])
		for n := low; n <= high; n++ {
			fields := unlike(op)
			fields[3] = n
			checkLine(t, op, fields)
		}
	}
}

func TestThereAndBackOfAllRegisters(t *testing.T) {
	for op := 1; op <= 43; op++ {
		_, d := chart.Bounds(chart.Shape(op)[0])
		_, a := chart.Bounds(chart.Shape(op)[1])
		_, b := chart.Bounds(chart.Shape(op)[2])
		for n := range (d + 1) * (a + 1) * (b + 1) {
			checkLine(t, op, [4]int{n % (d + 1), n / (d + 1) % (a + 1), n / (d + 1) / (a + 1), chart.Least(op)[3]})
		}
	}
}

func TestThereAndBackWithWhateverBlanks(t *testing.T) {
	gaps := 0
	for i := range chart.Some {
		s, e := line.Text(i)
		if e != api.OK {
			t.Fatalf("Text(%+v) = %v", i, e)
		}
		blanks := strings.Repeat(" ", gaps%7)
		checkParsed(t, blanks+strings.ReplaceAll(s, " ", " "+blanks)+strings.Repeat(" ", gaps%5), i)
		gaps++
	}
}

func TestNoTwoInstructionsHaveOneLine(t *testing.T) {
	seen := map[string]bool{}
	for i := range chart.Some {
		s, _ := line.Text(i)
		if seen[s] {
			t.Fatalf("Text(%+v) = %q, as of another one", i, s)
		}
		seen[s] = true
	}
}

// The chapter's examples.

func TestExamples(t *testing.T) {
	for s, i := range map[string]api.Ins{
		"lw r1 r0 40":   {Op: api.OpLw, D: 1, N: 40},
		"addi r1 r2 -5": {Op: api.OpAddi, D: 1, A: 2, N: -5},
	} {
		checkParsed(t, s, i)
		if got, e := line.Text(i); got != s || e != api.OK {
			t.Errorf("Text(%+v) = %q, %v, want %q", i, got, e, s)
		}
	}
}
