package source_test

import (
	"slices"
	"strings"
	"testing"

	"astrolabe/api"
	"astrolabe/chart"
	"astrolabe/image"
	"astrolabe/source"
)

// The reckoning of the tests is the chapters', written apart from the layers: texts byte by byte, numbers digit by digit, words by quotients and rests. What may be as an image is layer 22's to say.

// linesOf are those of a text.
func linesOf(s string) []string {
	var l []string
	var row []byte
	for k := range len(s) {
		if s[k] == 10 {
			l, row = append(l, string(row)), nil
		} else {
			row = append(row, s[k])
		}
	}
	if len(row) > 0 {
		l = append(l, string(row))
	}
	return l
}

// wordsOf are those of a line.
func wordsOf(s string) []string {
	var l []string
	from := 0
	for k := 0; k <= len(s); k++ {
		if k == len(s) || s[k] == 32 {
			if k > from {
				l = append(l, s[from:k])
			}
			from = k + 1
		}
	}
	return l
}

// numberOf is the number whose decimal s is, of so many digits at most.
func numberOf(s string, most int) (int, bool) {
	below := s != "" && s[0] == '-'
	if below {
		s = s[1:]
	}
	if s == "" || len(s) > most || s[0] == '0' && (below || len(s) > 1) {
		return 0, false
	}
	n := 0
	for k := range len(s) {
		d := strings.IndexByte("0123456789", s[k])
		if d < 0 {
			return 0, false
		}
		n = 10*n + d
	}
	if below {
		n = -n
	}
	return n, true
}

// valueOf is the number of a value.
func valueOf(s string) (int32, bool) {
	n, ok := numberOf(s, 10)
	if !ok || n < -2147483648 || n > 2147483647 {
		return 0, false
	}
	return int32(n), true
}

// decimal is a number's, digit by digit.
func decimal(n int) string {
	last := "0123456789"[max(n%10, -(n%10)):][:1]
	switch {
	case n/10 != 0:
		return decimal(n/10) + last
	case n < 0:
		return "-" + last
	}
	return last
}

// insOf is the instruction of a line's words.
func insOf(words []string) (op int, fields [4]int, e api.Errno) {
	op = chart.Op(words[0])
	if op == 0 {
		return 0, fields, api.ErrForm
	}
	k := 1
	for at, letter := range chart.Shape(op) {
		if letter == '-' {
			continue
		}
		if k == len(words) {
			return 0, fields, api.ErrForm
		}
		w := words[k]
		if letter != 's' && letter != 'u' {
			if w[0] != 'r' {
				return 0, fields, api.ErrForm
			}
			w = w[1:]
		}
		n, ok := numberOf(w, 9)
		if !ok {
			return 0, fields, api.ErrForm
		}
		fields[at] = n
		k++
	}
	if k < len(words) {
		return 0, fields, api.ErrForm
	}
	return op, fields, chart.Error(op, fields)
}

// row is what a line is: an instruction, if it has an operation, whose N is a name's place, if it has one; a name that gets a place; or a word of data or an address, which are kept at once.
type row struct {
	op     int
	fields [4]int
	aim    string
	name   string
}

// isAimer: may an operation's last word be @ and a name?
func isAimer(op int) bool {
	return slices.Contains([]string{"beq", "bne", "blt", "jump", "jal"}, chart.Name(op))
}

// rowOf is what a line's words are; what is no instruction and no name goes to m.
func rowOf(words []string, m *api.Image) (row, api.Errno) {
	last := words[len(words)-1]
	switch {
	case words[0][0] == '#':
		return row{}, api.OK
	case words[0] == "word" || words[0] == "secret":
		x, ok := valueOf(last)
		if len(words) != 2 || !ok {
			return row{}, api.ErrForm
		}
		m.Data, m.Secret = append(m.Data, x), append(m.Secret, words[0] == "secret")
		return row{}, api.OK
	case words[0] == "in" || words[0] == "out":
		a, ok := numberOf(last, 9)
		if len(words) != 2 || !ok {
			return row{}, api.ErrForm
		}
		if words[0] == "in" {
			m.In = append(m.In, a)
		} else {
			m.Out = append(m.Out, a)
		}
		return row{}, api.OK
	case len(words) == 1 && last[len(last)-1] == ':':
		name := last[:len(last)-1]
		if !chart.IsName(name) {
			return row{}, api.ErrForm
		}
		return row{name: name}, api.OK
	case isAimer(chart.Op(words[0])) && last[0] == '@':
		op, fields, e := insOf(append(slices.Clone(words[:len(words)-1]), "0"))
		if e == api.OK && !chart.IsName(last[1:]) {
			e = api.ErrForm
		}
		return row{op: op, fields: fields, aim: last[1:]}, e
	}
	op, fields, e := insOf(words)
	return row{op: op, fields: fields}, e
}

// rowsOf are those of all lines, or the number of the first line that is wrong, and why. What is no instruction goes to m.
func rowsOf(lines []string, m *api.Image) ([]row, int, api.Errno) {
	rows := make([]row, len(lines))
	had := map[string]bool{}
	for k, s := range lines {
		words := wordsOf(s)
		if len(words) == 0 {
			continue
		}
		r, e := rowOf(words, m)
		if e == api.OK && had[r.name] {
			e = api.ErrTwice
		}
		if e != api.OK {
			return nil, k, e
		}
		had[r.name] = r.name != ""
		rows[k] = r
	}
	return rows, 0, api.OK
}

// placesOf are those of all names: how many instructions stand ahead.
func placesOf(rows []row) map[string]int {
	l, n := map[string]int{}, 0
	for _, r := range rows {
		if r.name != "" {
			l[r.name] = n
		}
		if r.op > 0 {
			n++
		}
	}
	return l
}

// plainParse is what the chapter says of a text.
func plainParse(s string) (api.Image, int, api.Errno) {
	var m api.Image
	lines := linesOf(s)
	rows, at, e := rowsOf(lines, &m)
	if e != api.OK {
		return api.Image{}, at, e
	}
	places := placesOf(rows)
	for k, r := range rows {
		if r.aim != "" {
			to, ok := places[r.aim]
			if !ok {
				return api.Image{}, k, api.ErrNone
			}
			r.fields[3] = to
		}
		if r.op > 0 {
			m.Code = append(m.Code, chart.Word(r.op, r.fields))
		}
	}
	if e := image.Check(m); e != api.OK {
		return api.Image{}, len(lines), e
	}
	return m, len(lines), api.OK
}

// decoded is the instruction of a word.
func decoded(w uint32) (op int, fields [4]int, e api.Errno) {
	op = int(w / 67108864)
	if op < 1 || op > 43 {
		return 0, fields, api.ErrArg
	}
	for k, letter := range []byte(chart.Shape(op)) {
		switch letter {
		case 'd', 'a', 'b':
			fields[k] = int(w / []uint32{2097152, 65536, 2048}[k] % 32)
		case 's', 'u':
			fields[k] = int(w % 65536)
			if letter == 's' && fields[k] >= 32768 {
				fields[k] -= 65536
			}
		}
	}
	if chart.Word(op, fields) != w {
		return 0, [4]int{}, api.ErrForm
	}
	return op, fields, api.OK
}

// lineOf is an instruction's.
func lineOf(op int, fields [4]int) string {
	s := chart.Name(op)
	for k, letter := range chart.Shape(op) {
		switch letter {
		case 'd', 'a', 'b':
			s += " r" + decimal(fields[k])
		case 's', 'u':
			s += " " + decimal(fields[k])
		}
	}
	return s
}

// plainText is what the chapter says of an image's text.
func plainText(m api.Image) (string, api.Errno) {
	if e := image.Check(m); e != api.OK {
		return "", e
	}
	var b strings.Builder
	for k := range m.Data {
		b.WriteString(map[bool]string{false: "word ", true: "secret "}[m.Secret[k]] + decimal(int(m.Data[k])) + "\n")
	}
	for _, a := range m.In {
		b.WriteString("in " + decimal(a) + "\n")
	}
	for _, a := range m.Out {
		b.WriteString("out " + decimal(a) + "\n")
	}
	for _, w := range m.Code {
		op, fields, e := decoded(w)
		if e != api.OK {
			return "", e
		}
		b.WriteString(lineOf(op, fields) + "\n")
	}
	return b.String(), api.OK
}

// sixteen are the eight digits of a word.
func sixteen(w uint32) string {
	s := ""
	for range 8 {
		s = string("0123456789abcdef"[w%16]) + s
		w /= 16
	}
	return s
}

// plainList is what the chapter says of an image's list. To each place it goes through all.
func plainList(m api.Image) (string, api.Errno) {
	if e := image.Check(m); e != api.OK {
		return "", e
	}
	to := make([]int, len(m.Code))
	for k, w := range m.Code {
		to[k] = -1
		if op, fields, e := decoded(w); e == api.OK && isAimer(op) {
			to[k] = fields[3]
		}
	}
	var b strings.Builder
	for k, w := range m.Code {
		b.WriteString(decimal(k) + " " + sixteen(w) + " ")
		if op, fields, e := decoded(w); e == api.OK {
			b.WriteString(lineOf(op, fields))
		} else {
			b.WriteString("?")
		}
		sign := " <"
		for from := range to {
			if to[from] == k {
				b.WriteString(sign + " " + decimal(from))
				sign = ""
			}
		}
		b.WriteString("\n")
	}
	return b.String(), api.OK
}

// clone is an image that shares nothing with m.
func clone(m api.Image) api.Image {
	return api.Image{Code: slices.Clone(m.Code), Data: slices.Clone(m.Data), Secret: slices.Clone(m.Secret), In: slices.Clone(m.In), Out: slices.Clone(m.Out)}
}

// alike: are two images one?
func alike(a, b api.Image) bool {
	return slices.Equal(a.Code, b.Code) && slices.Equal(a.Data, b.Data) && slices.Equal(a.Secret, b.Secret) && slices.Equal(a.In, b.In) && slices.Equal(a.Out, b.Out)
}

// small is a text told in few bytes, where it is long.
func small(s string) string {
	if len(s) > 300 {
		return s[:150] + " .. " + s[len(s)-150:]
	}
	return s
}

// checkParsed holds that a text is an image's, and how many lines it has.
func checkParsed(t *testing.T, s string, want api.Image, lines int) {
	t.Helper()
	m, n, e := source.Parse(s)
	if !alike(m, want) || n != lines || e != api.OK {
		t.Fatalf("Parse(%q) = %+v, %d, %v, want %+v, %d", small(s), m, n, e, want, lines)
	}
}

// checkRefused holds that a text is no image's, which number is told, and why.
func checkRefused(t *testing.T, s string, at int, want api.Errno) {
	t.Helper()
	m, n, e := source.Parse(s)
	if !alike(m, api.Image{}) || n != at || e != want {
		t.Fatalf("Parse(%q) = %+v, %d, %v, want none, %d, %v", small(s), m, n, e, at, want)
	}
}

// checkPlain holds of a text what the chapter says.
func checkPlain(t *testing.T, s string) api.Errno {
	t.Helper()
	m, at, e := plainParse(s)
	if e == api.OK {
		checkParsed(t, s, m, at)
	} else {
		checkRefused(t, s, at, e)
	}
	return e
}

// checkTold holds what Text and List answer of an image, that they leave it as it is, and that what has a text is parsed of it.
func checkTold(t *testing.T, m api.Image) api.Errno {
	t.Helper()
	same := clone(m)
	want, e := plainText(m)
	if s, f := source.Text(m); s != want || f != e {
		t.Fatalf("Text(%+v) = %q, %v, want %q, %v", m, small(s), f, small(want), e)
	}
	list, f := plainList(m)
	if s, g := source.List(m); s != list || g != f {
		t.Fatalf("List(%+v) = %q, %v, want %q, %v", m, small(s), g, small(list), f)
	}
	if !alike(m, same) {
		t.Fatalf("%+v was made of %+v", m, same)
	}
	if e == api.OK {
		checkParsed(t, want, m, len(m.Data)+len(m.In)+len(m.Out)+len(m.Code))
	}
	return e
}
