package source_test

import (
	"strings"
	"testing"

	"astrolabe/api"
	"astrolabe/chart"
	"astrolabe/source"
)

const (
	wordMin = -1 << 31
	wordMax = 1<<31 - 1
)

// aimers are the names of the operations whose last word may be @ and a name, each with the words between.
var aimers = map[string]string{"beq": "r1 r2 ", "bne": "r3 r4 ", "blt": "r5 r6 ", "jump": "", "jal": "r7 "}

// texts goes through all that are made of up to so many pieces.
func texts(pieces []string, most int, do func(s string)) {
	l := []string{""}
	for n := 0; ; n++ {
		for _, s := range l {
			do(s)
		}
		if n == most {
			return
		}
		next := make([]string, 0, len(l)*len(pieces))
		for _, s := range l {
			for _, p := range pieces {
				next = append(next, s+p)
			}
		}
		l = next
	}
}

// codeOf is an image of instructions told by their lines, without @.
func codeOf(lines ...string) api.Image {
	var m api.Image
	for _, s := range lines {
		op, fields, _ := insOf(wordsOf(s))
		m.Code = append(m.Code, chart.Word(op, fields))
	}
	return m
}

// dataOf is an image of words of data that are not secret.
func dataOf(l ...int32) api.Image { return api.Image{Data: l, Secret: make([]bool, len(l))} }

// The chapter's example.

func TestExample(t *testing.T) {
	jump := api.Image{Code: []uint32{39 << 26}}
	checkParsed(t, "a:\njump @a", jump, 2)
	if s, e := source.Text(jump); s != "jump 0\n" || e != api.OK {
		t.Errorf("Text = %q, %v", s, e)
	}
}

// P23.1: lines

func TestParseByExactAnswers(t *testing.T) {
	checkParsed(t, "# five, and what is answered\nsecret 5\nword -7\n\nin 0\nout 1\n  out 0 \nlw r1 r0 0\nmore:\naddi r1 r1 -1\nbne r1 r0 @more\nbeq r0 r0 @end\nnop\nend:\nhalt\n", api.Image{
		Code: []uint32{34<<26 + 1<<21, 31<<26 + 1<<21 + 1<<16 + 65535, 37<<26 + 1<<21 + 1, 36<<26 + 5, 42 << 26, 43 << 26},
		Data: []int32{5, -7}, Secret: []bool{true, false}, In: []int{0}, Out: []int{1, 0},
	}, 15)
}

func TestLinesOfATextWithoutSuch(t *testing.T) {
	checkParsed(t, "", api.Image{}, 0)
	if m, _, _ := source.Parse(""); len(m.Code)+len(m.Data)+len(m.Secret)+len(m.In)+len(m.Out) != 0 {
		t.Errorf("an image of %+v", m)
	}
}

func TestLinesArePartedByTheByte10(t *testing.T) {
	nop := codeOf("nop")
	for s, n := range map[string]int{"nop": 1, "nop\n": 1, "nop\n\n": 2, "\nnop": 2, "\nnop\n": 2, "\n\nnop": 3, "nop\n ": 2, "nop\n \n": 2, "nop\n#": 2, " nop ": 1, "nop \n": 1, "#\n#\nnop\n#\n#": 5} {
		checkParsed(t, s, nop, n)
	}
	for s, n := range map[string]int{"\n": 1, "\n\n": 2, "\n\n\n": 3, " ": 1, " \n": 1, " \n ": 2, "\n ": 2, "#": 1, "#\n": 1, "#\n#": 2} {
		checkParsed(t, s, api.Image{}, n)
	}
	checkParsed(t, "nop\nhalt", codeOf("nop", "halt"), 2)
	checkParsed(t, "nop\nhalt\n", codeOf("nop", "halt"), 2)
	// No other byte parts lines.
	for _, s := range []string{"\r", "\r\n", "\v", "\f", "\x00", "\u0085", "\u2028", "\\n", ";", ","} {
		want := api.ErrForm
		checkRefused(t, "nop"+s+"nop", 0, want)
		checkRefused(t, "\nnop"+s, 1, want)
	}
}

func TestLinesThatAreLeftOut(t *testing.T) {
	for _, s := range []string{"", " ", "     ", "#", "##", "#nop", "# nop", "  # nop", "#\tjump @a", "# word", "#:", "#a:", "#@", "#\x00\xff\r", "#é", " #  a  : ", "#" + strings.Repeat("x", 5000)} {
		checkParsed(t, s, api.Image{}, min(len(s), 1))
		checkParsed(t, s+"\nnop\n"+s+"\nhalt\n"+s, codeOf("nop", "halt"), 4+min(len(s), 1))
		checkRefused(t, s+"\n"+s+"\nwrong", 2, api.ErrForm)
		checkRefused(t, "a:\n"+s+"\n"+s+"\njump @b\n"+s, 3, api.ErrNone)
		// They are no next instruction.
		checkParsed(t, "nop\na:\n"+s+"\nb:\n"+s+"\njump @a\njump @b", codeOf("nop", "jump 1", "jump 1"), 7)
	}
	// What stands behind a line's first word is none that leaves it out.
	for _, s := range []string{"nop #", "nop # nothing", "word 1 #", "word #", "a: #", "a:#", "jump @a#", "jump 0#", "in 0 # first", "-#", ".#", "\t#", "\t", "\r", "\x00", "\u00a0", "//", ";", "--"} {
		checkRefused(t, s, 0, api.ErrForm)
	}
}

func TestBlanksDoNotCount(t *testing.T) {
	want := api.Image{Code: codeOf("jump 0", "lw r1 r0 1", "jal r1 0").Code, Data: []int32{-1, 2}, Secret: []bool{false, true}, In: []int{1}, Out: []int{0}}
	checkParsed(t, "word -1\nsecret 2\nin 1\nout 0\na:\njump @a\nlw r1 r0 1\njal r1 @a", want, 8)
	checkParsed(t, "  word   -1 \n secret  2\n  in 1   \nout     0\n   a:  \n jump   @a \n  lw r1    r0 1\n jal   r1  @a  ", want, 8)
	checkParsed(t, " jump 0\nword -1\n  lw  r1 r0 1 \nout 0\n\njal r1 0\nin 1\nsecret 2  ", want, 8)
	for _, s := range []string{"word\t1", "word\u00a01", "a:\t", "\ta:", "jump\t0", "jump @a\t", "jump\t@a", "in\v0", "wo rd 1", "jump @ a", "jump@a"} {
		checkRefused(t, "a:\n"+s, 1, api.ErrForm)
	}
}

// P23.1: word, secret, in, out

func TestValues(t *testing.T) {
	for s, x := range map[string]int32{
		"0": 0, "1": 1, "-1": -1, "9": 9, "10": 10, "-10": -10, "65536": 65536, "999999999": 999999999, "-999999999": -999999999,
		"1000000000": 1000000000, "-1000000000": -1000000000, "1234567890": 1234567890, "-1234567890": -1234567890, "2000000000": 2000000000, "2147483639": 2147483639,
		"2147483646": wordMax - 1, "2147483647": wordMax, "-2147483647": -wordMax, "-2147483648": wordMin,
	} {
		checkParsed(t, "word "+s, dataOf(x), 1)
		checkParsed(t, "secret "+s, api.Image{Data: []int32{x}, Secret: []bool{true}}, 1)
	}
}

func TestNoValues(t *testing.T) {
	for _, s := range []string{
		"2147483648", "-2147483649", "2147483650", "2147483700", "3000000000", "4294967295", "4294967296", "-4294967296", "9999999999", "-9999999999",
		"10000000000", "21474836470", "00000000001", "-10000000000", "4294967297", "9223372036854775807", "18446744073709551616", "18446744073709551617", "99999999999999999999999999",
		"-0", "00", "01", "-01", "007", "0000000001", "+0", "+1", "--1", "-", "+", "1-", "0x1", "0b1", "0o1", "1_0", "1e3", "1.0", ".1", "1.", "a", "r1", "@a", "#", "1#", "1a", "a1", "१", "１", "−1", "½", "\x00", "1\x00", "1\xff", "1\t", "1\r", "Inf", "nan", "word", "secret",
	} {
		for _, first := range []string{"word ", "secret "} {
			checkRefused(t, first+s, 0, api.ErrForm)
			checkPlain(t, first+s)
		}
	}
}

func TestValuesWithEachByte(t *testing.T) {
	for b := range 256 {
		c := string([]byte{byte(b)})
		for _, s := range []string{c, c + c, c + "5", "5" + c, "5" + c + "5", "-" + c, "-5" + c, c + "147483648", "214748364" + c, "-214748364" + c, c + "2147483647", "2147483647" + c} {
			checkPlain(t, "word "+s)
			checkPlain(t, "secret "+s)
			checkPlain(t, "in "+s)
			checkPlain(t, "out "+s)
		}
	}
}

func TestValuesNextToTheBounds(t *testing.T) {
	for d := -3000; d <= 3000; d++ {
		for _, n := range []int{0, wordMax, wordMin, 1000000000, -1000000000, 9999999999, -9999999999} {
			checkPlain(t, "word "+decimal(n+d))
			checkPlain(t, "in "+decimal(n+d))
		}
	}
}

func TestFewerWordsAndMore(t *testing.T) {
	for _, first := range []string{"word", "secret", "in", "out"} {
		for _, s := range []string{first, " " + first + " ", first + " 0 0", first + " 0 1 2", first + " 0 r1", first + " 0 0 0 0 0 0", first + " 0 #", first + " 0 a:", first + " a: 0", first + " 0 word 1", first + " in 0", first + " @a", first + " -"} {
			checkRefused(t, s, 0, api.ErrForm)
			checkRefused(t, "word 1\n\n"+s+"\nword 1", 2, api.ErrForm)
		}
		// Letters count as they are.
		for _, s := range []string{strings.ToUpper(first), first + "s", first[:len(first)-1], first + ".", "." + first, strings.ToUpper(first[:1]) + first[1:], first + "0"} {
			checkRefused(t, "word 0\n"+s+" 0", 1, api.ErrForm)
		}
	}
	for _, s := range []string{"word0", "in0", "words 1", "data 1", "open 1", "input 0", "w 1", "0", "5", "-1", "word=1"} {
		checkRefused(t, s, 0, api.ErrForm)
	}
}

func TestDataStandsInOrder(t *testing.T) {
	checkParsed(t, "word 1\nsecret 2\nsecret 3\nword 4\nword 1\n", api.Image{Data: []int32{1, 2, 3, 4, 1}, Secret: []bool{false, true, true, false, false}}, 5)
	checkParsed(t, "secret 9\nhalt\nword 8\na:\nsecret 7", api.Image{Code: []uint32{43 << 26}, Data: []int32{9, 8, 7}, Secret: []bool{true, false, true}}, 5)
	for n := range 9 {
		for set := range 1 << n {
			var m api.Image
			var b strings.Builder
			for k := range n {
				secret := set>>k%2 == 1
				m.Data, m.Secret = append(m.Data, int32(k*k)), append(m.Secret, secret)
				b.WriteString(map[bool]string{false: "word ", true: "secret "}[secret] + decimal(k*k) + "\n")
			}
			checkParsed(t, b.String(), m, n)
		}
	}
}

func TestAddressesStandInOrder(t *testing.T) {
	data := strings.Repeat("word 0\n", 4)
	for _, x := range []struct {
		s       string
		in, out []int
	}{
		{"in 3\nin 0\nin 2", []int{3, 0, 2}, nil},
		{"out 3\nout 0\nout 3", nil, []int{3, 0, 3}},
		{"out 1\nin 2\nout 2\nin 1\nout 0", []int{2, 1}, []int{1, 2, 0}},
	} {
		want := dataOf(0, 0, 0, 0)
		want.In, want.Out = x.in, x.out
		checkParsed(t, data+x.s, want, len(linesOf(data+x.s)))
		// A word may stand behind the line that has its address.
		checkParsed(t, x.s+"\n"+data, want, len(linesOf(data+x.s)))
	}
}

func TestAddressesThatMayNotBe(t *testing.T) {
	for _, first := range []string{"in ", "out "} {
		// A decimal is taken whatever its number is, and the image refused at the end.
		for _, s := range []string{"2", "3", "-1", "-2", "2048", "65536", "999999999", "-999999999"} {
			checkRefused(t, "word 0\nword 0\n"+first+s+"\nnop\n\n", 5, api.ErrArg)
			checkRefused(t, first+s+"\nwrong", 1, api.ErrForm)
		}
		for _, s := range []string{"-0", "00", "01", "+1", "1000000000", "-1000000000", "2147483647", "4294967296", "0x0", "r0", "", "a", "@a", "0.", "1_0", "18446744073709551616"} {
			checkRefused(t, "word 0\nword 0\n"+first+s+"\nnop\n\n", 2, api.ErrForm)
		}
	}
	checkRefused(t, "word 0\nin 0\nin 0", 3, api.ErrTwice)
	checkRefused(t, "in 0\nin 0", 2, api.ErrArg)
}

// P23.1: names

func TestNamesGetPlaces(t *testing.T) {
	for _, name := range append(chart.Names(40), "a", "z", "a_", "a0", "word", "secret", "in", "out", "jump", "beq", "nop", "r1", "x23456789012345678901234") {
		checkParsed(t, name+":", api.Image{}, 1)
		checkParsed(t, " "+name+":  ", api.Image{}, 1)
		checkParsed(t, "nop\n"+name+":\nnop\njump @"+name, codeOf("nop", "nop", "jump 1"), 4)
		checkParsed(t, "jump @"+name+"\nnop\n"+name+":\nnop", codeOf("jump 2", "nop", "nop"), 4)
		checkParsed(t, "jump @"+name+"\nnop\n"+name+":", codeOf("jump 2", "nop"), 3)
	}
}

func TestNoNames(t *testing.T) {
	for _, name := range chart.NoNames() {
		if strings.ContainsAny(name, " \n") || strings.HasPrefix(name, "#") {
			continue
		}
		checkRefused(t, name+":", 0, api.ErrForm)
		checkRefused(t, "nop\n"+name+":\nnop", 1, api.ErrForm)
		for first, between := range aimers {
			checkRefused(t, "nop\n"+first+" "+between+"@"+name+"\n"+name+":", 1, api.ErrForm)
		}
	}
	for _, s := range []string{":", "a::", ":a", ":a:", "a:b", "a:b:", "@a:", "a;", "a", "a.", "a:.", "a：", "1:", "-:", "r1", "A:", "aB:"} {
		checkRefused(t, s, 0, api.ErrForm)
	}
}

func TestNamesWithOtherWords(t *testing.T) {
	for _, s := range []string{"a :", "a : ", ": a", ":", "a: nop", "nop a:", "a: b:", "a: a:", "a: #", "a: :", ": :", "a: 0", "a b:", "a: word 1", "label a:", "word: 1", "jump: 0", "in: 0", "halt: halt"} {
		checkRefused(t, s, 0, api.ErrForm)
		checkRefused(t, "a:\n"+s, 1, api.ErrForm)
		// Such a line gives no name a place.
		checkRefused(t, "jump @a\n"+s, 1, api.ErrForm)
	}
}

func TestNamesThatHaveAPlace(t *testing.T) {
	checkRefused(t, "a:\na:", 1, api.ErrTwice)
	checkRefused(t, "a:\nnop\nb:\n#\nnop\na:\nnop\nb:", 5, api.ErrTwice)
	checkRefused(t, "a:\nb:\nb:\na:", 2, api.ErrTwice)
	checkRefused(t, "nop\n  a: \n a:", 2, api.ErrTwice)
	checkRefused(t, "jump @a\na:\na:", 2, api.ErrTwice)
	// It is told ahead of names without a place, and of what image.Check refuses.
	checkRefused(t, "jump @b\nin 5\na:\na:", 3, api.ErrTwice)
	// A use gives no place, and another name has its own.
	checkParsed(t, "jump @a\njump @a\na:", codeOf("jump 2", "jump 2"), 3)
	checkParsed(t, "a:\naa:\na_:\na0:\nb:", api.Image{}, 5)
	for _, name := range chart.Names(20) {
		checkRefused(t, name+":\nnop\n"+name+":", 2, api.ErrTwice)
	}
}

func TestManyNamesOfOnePlace(t *testing.T) {
	checkParsed(t, "nop\na:\nb:\n\n# c\nc:\nbeq r0 r0 @a\nbne r0 r0 @b\nblt r0 r0 @c", codeOf("nop", "beq r0 r0 1", "bne r0 r0 1", "blt r0 r0 1"), 9)
	checkParsed(t, "a:\nword 1\nb:\nword 2\nin 0\nc:\nout 0\nd:\njump @a\njump @b\njump @c\njump @d", api.Image{Code: codeOf("jump 0", "jump 0", "jump 0", "jump 0").Code, Data: []int32{1, 2}, Secret: make([]bool, 2), In: []int{0}, Out: []int{0}}, 12)
}

// P23.1: instructions

func TestInstructions(t *testing.T) {
	var b strings.Builder
	var want api.Image
	n := 0
	for i := range chart.Some {
		fields := [4]int{i.D, i.A, i.B, i.N}
		b.WriteString(lineOf(i.Op, fields) + "\n")
		want.Code = append(want.Code, chart.Word(i.Op, fields))
		if n++; n == api.MaxCode {
			checkParsed(t, b.String(), want, n)
			b.Reset()
			want.Code, n = nil, 0
		}
	}
	checkParsed(t, b.String(), want, n)
}

func TestInstructionsThatMayNotBe(t *testing.T) {
	for op := 1; op <= 43; op++ {
		for k := range 4 {
			for _, n := range chart.Beyond(chart.Shape(op)[k]) {
				fields := chart.Greatest(op)
				fields[k] = n
				s := lineOf(op, fields)
				checkPlain(t, s)
				checkPlain(t, "nop\n"+s+"\nwrong")
			}
		}
		s := lineOf(op, chart.Greatest(op))
		for _, other := range []string{s + " 0", s + " r0", s + " @a", chart.Name(op), "x" + s, strings.ToUpper(s), s + ":", ": " + s, "@a " + s, strings.Replace(s, " ", " @a ", 1)} {
			checkPlain(t, other)
			checkPlain(t, "a:\n"+other)
		}
	}
	for s, want := range map[string]api.Errno{
		"lui r1 65536": api.ErrRange, "lui r1 -1": api.ErrRange, "lui r32 1": api.ErrRange, "lui r-1 1": api.ErrRange, "lui r1": api.ErrForm, "lui r1 1 1": api.ErrForm, "lui r01 1": api.ErrForm, "lui r-0 1": api.ErrForm,
		"addi r1 r0 32768": api.ErrRange, "addi r1 r0 -32769": api.ErrRange, "addi r1 r0 1000000000": api.ErrForm, "jump 65536": api.ErrRange, "jump -1": api.ErrRange, "jump r1": api.ErrForm, "jump": api.ErrForm,
		"add r1 r2 r32": api.ErrRange, "add r1 r2 3": api.ErrForm, "jr 1": api.ErrForm, "jr r99": api.ErrRange, "nop 0": api.ErrForm, "halted": api.ErrForm, "noop": api.ErrForm, "?": api.ErrForm,
	} {
		checkRefused(t, s, 0, want)
		checkRefused(t, "nop\n\n"+s, 2, want)
	}
}

// P23.1: @ and a name

func TestAtInEachInstructionThatGoesToN(t *testing.T) {
	for first, between := range aimers {
		for n := range 5 {
			ahead, behind := strings.Repeat("nop\n", n), strings.Repeat("halt\n", 4-n)
			number := func(k int) api.Image {
				return codeOf(linesOf(ahead + first + " " + between + decimal(k) + "\n" + behind)...)
			}
			checkParsed(t, ahead+first+" "+between+"@here\n"+behind+"here:", number(5), 6)
			checkParsed(t, "here:\n"+ahead+first+" "+between+"@here\n"+behind, number(0), 6)
			checkParsed(t, ahead+"here:\n"+first+" "+between+"@here\n"+behind, number(n), 6)
			checkParsed(t, ahead+first+" "+between+"@here\nhere:\n"+behind, number(n+1), 6)
			checkRefused(t, ahead+first+" "+between+"@here\n"+behind, n, api.ErrNone)
		}
	}
}

func TestAtInOtherInstructions(t *testing.T) {
	for op := 1; op <= 43; op++ {
		if isAimer(op) {
			continue
		}
		l := wordsOf(lineOf(op, chart.Least(op)))
		for k := 1; k < len(l); k++ {
			was := l[k]
			l[k] = "@a"
			checkRefused(t, "a:\n"+strings.Join(l, " "), 1, api.ErrForm)
			l[k] = was
		}
		checkRefused(t, "a:\n"+strings.Join(l, " ")+" @a", 1, api.ErrForm)
		checkRefused(t, "a:\n"+chart.Name(op)+" @a", 1, api.ErrForm)
	}
	// That a register may not be is not told where the last word is none of theirs.
	for _, s := range []string{"addi r32 r0 @a", "lw r32 r99 @a", "lui r-1 @a", "sw r1 r77 @a"} {
		checkRefused(t, "a:\n"+s, 1, api.ErrForm)
	}
	for _, s := range []string{"word @a", "secret @a", "in @a", "out @a", "@a", "@a:", "@", "@ a", "# @a\n@a"} {
		checkRefused(t, "a:\n"+s, strings.Count(s, "\n")+1, api.ErrForm)
	}
}

func TestAtInOtherPlaces(t *testing.T) {
	for _, s := range []string{
		"jump @a @a", "jump @a 0", "jump 0 @a", "jump 1 @a", "jump r0 @a", "jump @a a", "jump @ a", "jump a", "jump @a@a", "jump @@a", "jump a@", "jump @a:", "jump @a,", "jump 0@a", "jump -@a", "jump r@a",
		"jal @a", "jal @a 0", "jal @a @a", "jal r1 0 @a", "jal r1 r1 @a", "jal 1 @a", "jal r1 @a @a",
		"beq @a", "beq r1 @a", "beq r1 @a 0", "beq @a r1 0", "beq r1 r1 0 @a", "beq r1 r1 r1 @a", "beq 1 1 @a", "beq r1 r1 @a 0", "bne r1 @a @a", "blt r01 r0 @a",
	} {
		checkRefused(t, "a:\n"+s, 1, api.ErrForm)
		checkPlain(t, "a:\n"+s)
	}
}

func TestErrorsOfInstructionsWithAt(t *testing.T) {
	for s, want := range map[string]api.Errno{
		// The line's with 0 in that place, and then of what is no name.
		"beq r32 r0 @a": api.ErrRange, "beq r0 r32 @a": api.ErrRange, "beq r-1 r0 @a": api.ErrRange, "blt r0 r999999999 @a": api.ErrRange, "jal r32 @a": api.ErrRange, "jal r-32 @a": api.ErrRange,
		"beq r32 r0 @A": api.ErrRange, "beq r32 r0 @": api.ErrRange, "jal r32 @@": api.ErrRange, "jal r32 @0": api.ErrRange, "bne r0 r32 @abcdefghijklmnopqrstuvwxy": api.ErrRange,
		"beq r32 @A": api.ErrForm, "beq r32 r0 r0 @a": api.ErrForm, "beq r032 r0 @a": api.ErrForm,
		"beq r0 r0 @A": api.ErrForm, "jump @": api.ErrForm, "jump @0": api.ErrForm, "jump @_": api.ErrForm, "jal r31 @a-b": api.ErrForm, "blt r0 r31 @abcdefghijklmnopqrstuvwxy": api.ErrForm,
	} {
		checkRefused(t, s, 0, want)
		checkRefused(t, "nop\n"+s+"\na:\n", 1, want)
		checkPlain(t, s)
	}
}

func TestNamesThatHaveNoPlace(t *testing.T) {
	for s, at := range map[string]int{
		"jump @a": 0, "\njump @a": 1, "a:\njump @a\njump @b": 2, "jump @b\njump @a\na:": 0, "jump @a\na:\njump @c\njump @b": 2, "nop\njump @x\njump @y\ny:": 1, "nop\njump @y\njump @x\ny:\njump @x": 2,
		"a:\njump @aa": 1, "aa:\njump @a": 1, "a_:\njump @a": 1, "#a:\njump @a": 1, "word 1\nin 0\nbeq r1 r2 @word": 2, "jump @a\njump @a\njump @a": 0, "z:\nblt r1 r2 @z\n\n#\njal r1 @y\nbne r1 r2 @x": 4,
	} {
		checkRefused(t, s, at, api.ErrNone)
		checkPlain(t, s)
	}
	// It is told ahead of what image.Check refuses, and behind all lines that are wrong.
	checkRefused(t, "nop\njump @a\nin 0\n", 1, api.ErrNone)
	checkRefused(t, "jump @a\n"+strings.Repeat("nop\n", 20000), 0, api.ErrNone)
	checkRefused(t, "jump @a\nnop\nnop\nlui r1 65536", 3, api.ErrRange)
	checkRefused(t, "jump @a\nb:\nb:", 2, api.ErrTwice)
	checkRefused(t, "jump @a\nnopp", 1, api.ErrForm)
}

// P23.1: which line is told

func TestTheFirstLineThatIsWrongIsTold(t *testing.T) {
	wrong := map[string]api.Errno{"word": api.ErrForm, "a:": api.ErrTwice, "lui r1 -1": api.ErrRange, "beq r32 r0 @A": api.ErrRange, "jump @A": api.ErrForm, "A:": api.ErrForm, "in x": api.ErrForm}
	for s, want := range wrong {
		for other := range wrong {
			for n := range 4 {
				between := strings.Repeat("nop\n", n)
				checkRefused(t, "a:\n"+between+s+"\n"+between+other, 1+n, want)
				checkRefused(t, "in 7\na:\njump @b\n"+s+"\n"+between+other+"\n"+s, 3, want)
			}
		}
	}
}

func TestWhatImageCheckRefuses(t *testing.T) {
	data := strings.Repeat("word 0\n", 300)
	var in strings.Builder
	for k := range 256 {
		in.WriteString("in " + decimal(k) + "\n")
	}
	for _, x := range []struct {
		s    string
		want api.Errno
	}{
		{"out 0\nnop", api.ErrArg}, {"in 0", api.ErrArg}, {"word 0\nin 1\n", api.ErrArg}, {"word 0\nout -1\n\n\n", api.ErrArg}, {"in 0\nin 0\nword 1\n#", api.ErrTwice}, {"in 0\nword 1\nin 0\nout 1", api.ErrArg},
		{strings.Repeat("nop\n", 16385), api.ErrLong}, {strings.Repeat("word 1\n", 2049), api.ErrLong}, {strings.Repeat("secret 1\n", 2049), api.ErrLong}, {strings.Repeat("\nword 1\n#\nsecret 1\n", 1025), api.ErrLong},
		{data + in.String(), api.ErrLong}, {"word 0\n" + strings.Repeat("out 0\n", 256), api.ErrLong}, {strings.Repeat("out 0\n", 256), api.ErrLong}, {"in 0\nin 0\n" + strings.Repeat("nop\n", 16385), api.ErrLong},
	} {
		lines := len(linesOf(x.s))
		checkRefused(t, x.s, lines, x.want)
		checkRefused(t, "\n"+x.s, lines+1, x.want)
		checkRefused(t, x.s+"\n\n\n", len(linesOf(x.s+"\n\n\n")), x.want)
	}
}

func TestAsMuchAsMayBe(t *testing.T) {
	nops := api.Image{Code: make([]uint32, 16384)}
	for k := range nops.Code {
		nops.Code[k] = 42 << 26
	}
	checkParsed(t, strings.Repeat("nop\n", 16384), nops, 16384)
	checkParsed(t, strings.Repeat("nop\n\na: b\n"[:5], 16384), nops, 32768)
	checkParsed(t, strings.Repeat("word 0\n", 2048), dataOf(make([]int32, 2048)...), 2048)
	var b strings.Builder
	m := dataOf(make([]int32, 255)...)
	for k := range 255 {
		b.WriteString("in " + decimal(254-k) + "\nword 0\nout 7\n")
		m.In, m.Out = append(m.In, 254-k), append(m.Out, 7)
	}
	checkParsed(t, b.String(), m, 765)
	// The last place, and the one behind it.
	nops.Code[0], nops.Code[1] = 39<<26+16383, 39<<26+16384
	checkParsed(t, "jump @last\njump @end\n"+strings.Repeat("nop\n", 16381)+"last:\nnop\nend:\n", nops, 16386)
}

func TestPlacesBeyondWhatNCanBe(t *testing.T) {
	for _, n := range []int{16384, 32767, 32768, 65534, 65535, 65536, 65537, 131072} {
		s := "jump @end\n" + strings.Repeat("nop\n", n) + "end:\njal r1 @end\n"
		checkRefused(t, s, n+3, api.ErrLong)
		checkRefused(t, s+"jump @none", n+3, api.ErrNone)
	}
}

// P23.1: all together

func TestAllShortTexts(t *testing.T) {
	told := map[api.Errno]int{}
	hold := func(s string) { told[checkPlain(t, s)]++ }
	texts([]string{"a", "@", ":", " ", "\n", "#", "0", "-", "word", "in", "jump", "nop"}, 5, hold)
	texts([]string{"a:", "jump ", "@a", "\n", " ", "word ", "in ", "0"}, 6, hold)
	texts([]string{"word", "-", "0", "1", "2147483647", " ", "\n", "000000000"}, 6, hold)
	texts([]string{" ", "\n", "#", "a:", "\t"}, 7, hold)
	texts([]string{"jal ", "beq ", "r1 ", "r32 ", "@a", "@A", "\n", "a:"}, 5, hold)
	for _, e := range []api.Errno{api.OK, api.ErrForm, api.ErrRange, api.ErrTwice, api.ErrNone, api.ErrArg} {
		if told[e] == 0 {
			t.Errorf("of no text %v was told", e)
		}
	}
}

func TestAllShortRowsOfLines(t *testing.T) {
	told := map[api.Errno]int{}
	hold := func(s string) { told[checkPlain(t, s)]++ }
	texts([]string{"\n", "# a:\n", "a:\n", " b:\n", "nop\n", "jump @a\n", "beq r1 r0 @b\n", "jal r32 @c\n", "jal r1 @c\n", "word 7\n", "secret -7\n", "in 0\n", "out 1\n", "word x\n"}, 4, hold)
	texts([]string{"a:\n", "b:\n", "nop\n", "jump @a\n", "blt r1 r2 @b\n"}, 7, hold)
	texts([]string{"word 1\n", "secret 2\n", "in 0\n", "in 1\n", "out 0\n", "out 2\n"}, 6, hold)
	for _, e := range []api.Errno{api.OK, api.ErrForm, api.ErrRange, api.ErrTwice, api.ErrNone, api.ErrArg} {
		if told[e] < 100 {
			t.Errorf("%v was told of %d texts", e, told[e])
		}
	}
}

const sum = "# adds up\nsecret 5\nword -7\nin 0\nout 1\nlw r1 r0 0\nloop:\nadd r2 r2 r1\naddi r1 r1 -1\nbne r1 r0 @loop\njump @end\nend:\nsw r2 r0 1\nhalt"

func TestTextsThatAreChanged(t *testing.T) {
	told := map[api.Errno]int{}
	hold := func(s string) { told[checkPlain(t, s)]++ }
	for k := range sum {
		for x := range 256 {
			c := string([]byte{byte(x)})
			hold(sum[:k] + c + sum[k+1:])
			hold(sum[:k] + c + sum[k:])
		}
		for n := range len(sum) - k + 1 {
			hold(sum[:k] + sum[k+n:])
			hold(sum[:k+n] + sum[k:])
		}
	}
	for _, e := range []api.Errno{api.OK, api.ErrForm, api.ErrRange, api.ErrTwice, api.ErrNone, api.ErrArg} {
		if told[e] < 20 {
			t.Errorf("%v was told of %d texts", e, told[e])
		}
	}
}

func TestLinesThatAreMoved(t *testing.T) {
	l := strings.SplitAfter(sum+"\n", "\n")
	for i := range l {
		for k := range l {
			l[i], l[k] = l[k], l[i]
			checkPlain(t, strings.Join(l, ""))
			for n := range l {
				checkPlain(t, strings.Join(l[:n], "")+strings.Join(l[min(n+1, len(l)):], ""))
			}
			l[i], l[k] = l[k], l[i]
		}
	}
}

// chance makes numbers without a pattern.
type chance struct{ chart.Chance }

func (c *chance) of(l ...string) string { return l[c.Below(len(l))] }

// someLine is a line without a pattern; few of them are wrong.
func someLine(c *chance) string {
	name := c.of("a", "b", "loop", "loop_1", "x9", "end")
	switch c.Below(12) {
	case 0, 1:
		return c.of(name, name, name, name+decimal(c.Below(30))) + ":"
	case 2, 3:
		first := c.of("beq", "bne", "blt", "jump", "jal")
		return first + " " + aimers[first] + "@" + name
	case 4:
		return c.of("word", "secret") + " " + decimal((c.Below(1<<24)*256+c.Below(256))-1<<31)
	case 5:
		return c.of("in", "out") + " " + decimal(c.Below(4))
	case 6:
		return c.of("", "  ", "#", " # "+name)
	}
	op := 1 + c.Below(43)
	var fields [4]int
	for k, letter := range []byte(chart.Shape(op)) {
		low, high := chart.Bounds(letter)
		fields[k] = low + c.Below(high-low+1)
		if c.Below(500) == 0 {
			fields[k] = high + 1
		}
	}
	s := lineOf(op, fields)
	if c.Below(100) == 0 {
		s += c.of(" ", " 0", " r1", ":", "@a", " @a")
	}
	return s
}

func TestTextsWithoutAPattern(t *testing.T) {
	told := map[api.Errno]int{}
	c := chance{7}
	for range 40000 {
		var b strings.Builder
		if c.Below(3) > 0 {
			b.WriteString("word 1\nsecret 2\nword 3\nword 4\n")
		}
		for range c.Below(20) {
			b.WriteString(strings.Repeat(" ", c.Below(20)/19) + someLine(&c) + "\n")
		}
		s := b.String()
		if c.Below(2) == 0 {
			for _, name := range []string{"a", "b", "loop", "loop_1", "x9", "end"} {
				if !strings.Contains(s, name+":\n") {
					s += name + ":\n"
				}
			}
		}
		told[checkPlain(t, strings.TrimSuffix(s, c.of("\n", "")))]++
	}
	for _, e := range []api.Errno{api.OK, api.ErrForm, api.ErrRange, api.ErrTwice, api.ErrNone, api.ErrArg} {
		if told[e] < 100 {
			t.Errorf("%v was told of %d texts", e, told[e])
		}
	}
}

func TestAnyBytes(t *testing.T) {
	for x := range 256 {
		c := string([]byte{byte(x)})
		for _, s := range []string{c, c + c, c + "\n", "\n" + c, "nop" + c, c + "nop", "nop " + c, c + " nop", "a" + c, "a:" + c, "word 1" + c, "word " + c, "jump @a" + c, "jump @" + c, "jump " + c + "a", "in" + c + "0"} {
			checkPlain(t, s)
			checkPlain(t, "a:\n"+s)
		}
	}
	c := chance{1}
	for range 20000 {
		b := make([]byte, c.Below(12))
		for k := range b {
			b[k] = byte(c.Below(256))
		}
		checkPlain(t, string(b))
		checkPlain(t, "nop\n"+string(b))
	}
}

func TestLongLines(t *testing.T) {
	const many = 1 << 20
	for _, s := range []string{
		strings.Repeat("x", many), strings.Repeat("x ", many), strings.Repeat("a:", many), "word " + strings.Repeat("0", many), "word " + strings.Repeat("1", many), "word -" + strings.Repeat("9", many), "word" + strings.Repeat(" 1", many), "in " + strings.Repeat("7", many),
		"jump @" + strings.Repeat("a", many), "jump" + strings.Repeat(" @a", many), "jump " + strings.Repeat("@", many), "add" + strings.Repeat(" r1", many), strings.Repeat("a", many) + ":", strings.Repeat(":", many), "beq r" + strings.Repeat("1", many) + " r0 @a",
	} {
		checkRefused(t, s, 0, api.ErrForm)
		checkRefused(t, "#\n"+s+"\n"+s, 1, api.ErrForm)
		checkParsed(t, "#"+s, api.Image{}, 1)
	}
	blanks := strings.Repeat(" ", many)
	checkParsed(t, blanks, api.Image{}, 1)
	checkParsed(t, blanks+"word"+blanks+"5"+blanks+"\n"+blanks+"a:"+blanks+"\njump"+blanks+"@a"+blanks, api.Image{Code: []uint32{39 << 26}, Data: []int32{5}, Secret: []bool{false}}, 3)
}

func TestManyLines(t *testing.T) {
	const bound = 1 << 24
	checkParsed(t, strings.Repeat("\n", bound), api.Image{}, bound)
	checkRefused(t, strings.Repeat("word 1\n", bound/7), bound/7, api.ErrLong)
	const many = 1 << 18
	checkRefused(t, strings.Repeat("nop\n", many), many, api.ErrLong)
	checkRefused(t, strings.Repeat("in 0\n", many), many, api.ErrLong)
	checkRefused(t, strings.Repeat("jump @a\n", many), 0, api.ErrNone)
	checkRefused(t, strings.Repeat("jump @a\n", many)+"a:", many+1, api.ErrLong)
	var b strings.Builder
	for k := range 100000 {
		b.WriteString("n" + decimal(k) + ":\n")
	}
	checkParsed(t, b.String()+"jump @n0\njump @n99999", codeOf("jump 0", "jump 0"), 100002)
	checkRefused(t, b.String()+"n77777:", 100000, api.ErrTwice)
}
