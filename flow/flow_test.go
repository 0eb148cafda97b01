package flow_test

import (
	"slices"
	"strconv"
	"testing"

	"astrolabe/api"
	"astrolabe/chart"
	"astrolabe/flow"
	"astrolabe/source"
)

// Memory of two words, as texts.
const (
	mixed  = "secret 5\nword 6\n"
	hidden = "secret 5\nsecret 6\n"
	public = "word 5\nword 6\n"
)

// parsed is the image of a text.
func parsed(t *testing.T, text string) api.Image {
	t.Helper()
	m, at, e := source.Parse(text)
	if e != api.OK {
		t.Fatalf("line %d of %q: %v", at, text, e)
	}
	return m
}

// taken is the place of a row whose image is taken.
const taken = -2

// row is a text, the place at which something is not allowed first, and what is secret at each place.
type row struct {
	text    string
	at      int
	secrets []uint32
}

// checkRows holds both calls of texts that stand behind those of memory.
func checkRows(t *testing.T, memory string, rows []row) {
	t.Helper()
	for _, r := range rows {
		m := parsed(t, memory+r.text)
		want := api.Flaw{Why: api.ErrFlow, Pc: r.at}
		if r.at == taken {
			want = api.Flaw{}
		}
		if got := flow.Check(m); got != want {
			t.Errorf("Check of %q = %v, want %v", memory+r.text, got, want)
		}
		if got := flow.Secrets(m); !slices.Equal(got, r.secrets) {
			t.Errorf("Secrets of %q = %v, want %v", memory+r.text, got, r.secrets)
		}
	}
}

// The chapter's example.

func TestExample(t *testing.T) {
	checkRows(t, "secret 7\n", []row{{"lw r1 r0 0\nbeq r1 r0 0", 1, []uint32{2, 2}}})
}

func TestOfNothing(t *testing.T) {
	for _, m := range []api.Image{{}, {Code: []uint32{}, Data: []int32{}, Secret: []bool{}, In: []int{}, Out: []int{}}, parsed(t, mixed), parsed(t, hidden+"in 1\nout 0\n")} {
		if got := flow.Check(m); got != (api.Flaw{}) {
			t.Errorf("Check of no code = %v", got)
		}
		if got := flow.Secrets(m); len(got) != 0 {
			t.Errorf("Secrets of no code = %v", got)
		}
	}
}

// P24.1: what image.Check refuses, and In

// leaky is code of which the first place is not allowed.
const leaky = "jr r1\n"

// numbers are the n from one on.
func numbers(from, n int) []int {
	l := make([]int, n)
	for k := range l {
		l[k] = from + k
	}
	return l
}

func TestWhatMayNotBe(t *testing.T) {
	for _, text := range []string{"halt\n", leaky} {
		for _, x := range []struct {
			why api.Errno
			do  func(m *api.Image)
		}{
			{api.ErrLong, func(m *api.Image) { m.Code = append(m.Code, make([]uint32, 16384)...) }},
			{api.ErrLong, func(m *api.Image) { m.Data, m.Secret = make([]int32, 2049), make([]bool, 2049) }},
			{api.ErrLong, func(m *api.Image) { m.In = numbers(0, 256) }},
			{api.ErrLong, func(m *api.Image) { m.Out = make([]int, 256) }},
			{api.ErrArg, func(m *api.Image) { m.Secret = nil }},
			{api.ErrArg, func(m *api.Image) { m.Secret = m.Secret[:1] }},
			{api.ErrArg, func(m *api.Image) { m.Secret = append(m.Secret, true) }},
			{api.ErrArg, func(m *api.Image) { m.Data = m.Data[:1] }},
			{api.ErrArg, func(m *api.Image) { m.In = []int{-1} }},
			{api.ErrArg, func(m *api.Image) { m.In = []int{0, 2} }},
			{api.ErrArg, func(m *api.Image) { m.In = []int{1 << 32} }},
			{api.ErrArg, func(m *api.Image) { m.Out = []int{1, -1} }},
			{api.ErrArg, func(m *api.Image) { m.Out = []int{2} }},
			{api.ErrTwice, func(m *api.Image) { m.In = []int{0, 0} }},
			{api.ErrTwice, func(m *api.Image) { m.In = []int{1, 0, 1} }},
		} {
			m := parsed(t, mixed+text)
			x.do(&m)
			checkRefused(t, m, x.why)
		}
	}
	// Of several errors the one that image.Check tells.
	m := parsed(t, mixed+leaky)
	m.In, m.Out = []int{1, 1}, []int{2}
	checkRefused(t, m, api.ErrArg)
	m.Code = make([]uint32, 16385)
	checkRefused(t, m, api.ErrLong)
	checkRefused(t, api.Image{Code: []uint32{1}, Data: []int32{1}}, api.ErrArg)
}

func TestAsMuchAsMayBe(t *testing.T) {
	p := plain{code: slices.Repeat([]api.Ins{chart.Named("lw", 1, 0, 2047)}, 16384), secret: make([]bool, 2048), in: numbers(1793, 255)}
	check(t, p)
	for k := 1793; k < 2048; k++ {
		p.secret[k] = true
	}
	if x := check(t, p); x.flaw != (api.Flaw{}) || x.secrets[16383] != 2 {
		t.Errorf("%v, %#x", x.flaw, x.secrets[16383])
	}
	p.in[254] = 1792
	check(t, p)
}

func TestInOfAWordThatIsNotSecret(t *testing.T) {
	for _, text := range []string{"", "halt\n", leaky, "lw r1 r0 0\nbeq r1 r0 0\n"} {
		for _, x := range []struct {
			secret []bool
			in     []int
			open   bool
		}{
			{[]bool{true, false, true}, nil, false},
			{[]bool{true, false, true}, []int{0}, false},
			{[]bool{true, false, true}, []int{2, 0}, false},
			{[]bool{true, false, true}, []int{1}, true},
			{[]bool{true, false, true}, []int{1, 0, 2}, true},
			{[]bool{true, false, true}, []int{0, 1, 2}, true},
			{[]bool{true, false, true}, []int{0, 2, 1}, true},
			{[]bool{false, false, false}, nil, false},
			{[]bool{false, false, false}, []int{0, 1, 2}, true},
			{[]bool{true, true, true}, []int{2, 1, 0}, false},
		} {
			m := parsed(t, "word 1\nword 2\nword 3\n"+text)
			m.Secret, m.In = x.secret, x.in
			// Out may be of any word.
			for _, out := range [][]int{nil, {0}, {1}, {2, 1, 0, 0}} {
				m.Out = out
				checkIn(t, m, x.open)
			}
		}
	}
}

// checkIn holds that an open word of In is told ahead of all else, and changes nothing of what is secret.
func checkIn(t *testing.T, m api.Image, open bool) {
	t.Helper()
	without := m
	without.In = nil
	want := flow.Check(without)
	if open {
		want = api.Flaw{Why: api.ErrFlow, Pc: -1}
	}
	if got := flow.Check(m); got != want {
		t.Errorf("%v, In %v: Check = %v, want %v", m.Secret, m.In, got, want)
	}
	if got, want := flow.Secrets(m), flow.Secrets(without); !slices.Equal(got, want) || len(got) != len(m.Code) {
		t.Errorf("%v, In %v: Secrets = %v, want %v", m.Secret, m.In, got, want)
	}
}

// Levels behind each instruction

// Registers 2 and 3 are secret, 4 and 5 open.
const secrets = "lw r2 r0 0\nlw r3 r0 0\n"

// checkBehind holds what is secret behind an instruction, and where it is not allowed.
func checkBehind(t *testing.T, memory, text string, at int, want uint32) {
	t.Helper()
	checkRows(t, memory, []row{{secrets + text + "\nnop", at, []uint32{0, 1 << 2, 1<<2 | 1<<3, want}}})
}

// sum of registers.
func sum(registers ...int) uint32 {
	var x uint32
	for _, r := range registers {
		x |= 1 << r
	}
	return x
}

func TestWhatReckonsByExactAnswers(t *testing.T) {
	for op := 1; op <= 30; op++ {
		name, two := chart.Name(op), chart.Shape(op) == "dab-"
		checkReckons := func(d, a, b int, want uint32) {
			t.Helper()
			text := name + " r" + strconv.Itoa(d) + " r" + strconv.Itoa(a)
			if two {
				text += " r" + strconv.Itoa(b)
			}
			at := taken
			if (name == "div" || name == "rem") && (a == 2 || a == 3 || b == 2 || b == 3) {
				at = 2
			}
			checkBehind(t, mixed, text, at, want)
		}
		checkReckons(1, 2, 4, sum(1, 2, 3))
		checkReckons(1, 4, 5, sum(2, 3))
		checkReckons(1, 0, 0, sum(2, 3))
		checkReckons(2, 4, 5, sum(3))
		checkReckons(2, 0, 4, sum(3))
		checkReckons(2, 2, 4, sum(2, 3))
		checkReckons(0, 2, 4, sum(2, 3))
		if two {
			checkReckons(1, 4, 2, sum(1, 2, 3))
			checkReckons(1, 2, 3, sum(1, 2, 3))
			checkReckons(2, 4, 2, sum(2, 3))
			checkReckons(2, 0, 3, sum(2, 3))
			checkReckons(0, 4, 3, sum(2, 3))
			checkReckons(1, 1, 1, sum(2, 3))
		}
	}
}

func TestNumbersByExactAnswers(t *testing.T) {
	for _, name := range []string{"addi", "ori"} {
		for text, want := range map[string]uint32{
			" r1 r2 1": sum(1, 2, 3), " r1 r4 1": sum(2, 3), " r1 r0 2": sum(2, 3), " r2 r4 3": sum(3), " r2 r0 0": sum(3), " r2 r2 1": sum(2, 3), " r2 r3 1": sum(2, 3), " r0 r2 1": sum(2, 3), " r31 r3 0": sum(2, 3, 31),
		} {
			checkBehind(t, mixed, name+text, taken, want)
		}
	}
	for text, want := range map[string]uint32{"lui r1 2": sum(2, 3), "lui r2 3": sum(3), "lui r3 0": sum(2), "lui r0 1": sum(2, 3)} {
		checkBehind(t, mixed, text, taken, want)
	}
}

func TestLoadsByExactAnswers(t *testing.T) {
	for _, x := range []struct {
		memory, text string
		at           int
		want         uint32
	}{
		{mixed, "lw r1 r0 0", taken, sum(1, 2, 3)},
		{mixed, "lw r1 r0 1", taken, sum(2, 3)},
		{mixed, "lw r2 r0 0", taken, sum(2, 3)},
		{mixed, "lw r2 r0 1", taken, sum(3)},
		{mixed, "lw r0 r0 0", taken, sum(2, 3)},
		{mixed, "lw r1 r4 0", taken, sum(1, 2, 3)},
		{mixed, "lw r1 r4 1", taken, sum(1, 2, 3)},
		{mixed, "lw r1 r4 9", taken, sum(1, 2, 3)},
		{mixed, "lw r2 r4 1", taken, sum(2, 3)},
		{mixed, "lw r1 r2 0", 2, sum(1, 2, 3)},
		{mixed, "lw r1 r2 1", 2, sum(1, 2, 3)},
		{mixed, "lw r2 r2 9", 2, sum(2, 3)},
		{hidden, "lw r1 r0 1", taken, sum(1, 2, 3)},
		{hidden, "lw r1 r4 9", taken, sum(1, 2, 3)},
		// Nothing goes on.
		{mixed, "lw r1 r0 2", taken, 0},
		{mixed, "lw r1 r0 65535", taken, 0},
		{mixed, "lw r0 r0 9", taken, 0},
		{hidden, "lw r1 r0 2", taken, 0},
	} {
		checkBehind(t, x.memory, x.text, x.at, x.want)
	}
	checkRows(t, public, []row{
		{"lw r1 r0 0\nlw r1 r4 0\nlw r1 r1 9\nbeq r1 r1 0", taken, []uint32{0, 0, 0, 0}},
		{"lw r1 r0 2\njr r1", taken, []uint32{0, 0}},
		{"lw r1 r0 1\njr r1", 1, []uint32{0, 0}},
	})
	// Without memory, an address of another register than 0 may be any; of 0 it is none.
	checkRows(t, "", []row{
		{"lw r1 r4 0\njr r1", 1, []uint32{0, 0}},
		{"lw r1 r0 0\njr r1", taken, []uint32{0, 0}},
		{"sw r1 r4 0\njr r1", 1, []uint32{0, 0}},
		{"sw r1 r0 0\njr r1", taken, []uint32{0, 0}},
	})
}

func TestStoresByExactAnswers(t *testing.T) {
	for _, x := range []struct {
		memory, text string
		at           int
		want         uint32
	}{
		{mixed, "sw r2 r0 0", taken, sum(2, 3)},
		{mixed, "sw r2 r0 1", 2, sum(2, 3)},
		{mixed, "sw r4 r0 0", taken, sum(2, 3)},
		{mixed, "sw r4 r0 1", taken, sum(2, 3)},
		{mixed, "sw r0 r0 1", taken, sum(2, 3)},
		{mixed, "sw r2 r4 0", 2, sum(2, 3)},
		{mixed, "sw r2 r4 1", 2, sum(2, 3)},
		{mixed, "sw r2 r4 9", 2, sum(2, 3)},
		{mixed, "sw r4 r5 0", taken, sum(2, 3)},
		{mixed, "sw r4 r4 9", taken, sum(2, 3)},
		{mixed, "sw r0 r4 1", taken, sum(2, 3)},
		{mixed, "sw r4 r2 0", 2, sum(2, 3)},
		{mixed, "sw r0 r3 1", 2, sum(2, 3)},
		{mixed, "sw r2 r3 9", 2, sum(2, 3)},
		{hidden, "sw r2 r0 1", taken, sum(2, 3)},
		{hidden, "sw r2 r4 0", taken, sum(2, 3)},
		{hidden, "sw r2 r4 9", taken, sum(2, 3)},
		{hidden, "sw r2 r3 0", 2, sum(2, 3)},
		{hidden, "sw r4 r3 0", 2, sum(2, 3)},
		// Nothing goes on; and with register 0 nothing is secret of the address.
		{mixed, "sw r2 r0 2", taken, 0},
		{mixed, "sw r4 r0 2", taken, 0},
		{hidden, "sw r2 r0 65535", taken, 0},
	} {
		checkBehind(t, x.memory, x.text, x.at, x.want)
	}
	// What is stored stays as secret as it was: what is loaded there is, too.
	checkRows(t, mixed, []row{{"sw r1 r0 0\nlw r1 r0 0\nlw r1 r0 1\nnop", taken, []uint32{0, 0, 2, 0}}})
}

func TestBranchesByExactAnswers(t *testing.T) {
	for _, name := range []string{"beq", "bne", "blt"} {
		for text, at := range map[string]int{
			" r4 r5 4": taken, " r0 r0 4": taken, " r4 r4 4": taken, " r2 r4 4": 2, " r2 r0 4": 2, " r4 r2 4": 2, " r0 r2 4": 2, " r2 r3 4": 2, " r2 r2 4": 2, " r31 r1 4": taken,
		} {
			checkRows(t, mixed, []row{{secrets + name + text + "\nlui r2 1\nlui r3 1\nnop", at, []uint32{0, sum(2), sum(2, 3), sum(2, 3), sum(2, 3), sum(2)}}})
		}
		checkRows(t, mixed, []row{
			// At N and at the next place.
			{"lw r1 r0 0\n" + name + " r0 r0 4\nlui r1 0\nhalt\nnop", taken, []uint32{0, 2, 2, 0, 2}},
			{"lw r1 r0 0\n" + name + " r0 r0 2\nnop", taken, []uint32{0, 2, 2}},
			{"lw r1 r0 0\n" + name + " r0 r0 1\nnop", taken, []uint32{0, 2, 2}},
			{"lw r1 r0 0\n" + name + " r0 r0 0\nnop", taken, []uint32{2, 2, 2}},
		})
	}
}

func TestOtherInstructionsByExactAnswers(t *testing.T) {
	checkRows(t, mixed, []row{
		{secrets + "nop\nnop", taken, []uint32{0, 4, 12, 12}},
		{secrets + "jump 4\nnop\nnop", taken, []uint32{0, 4, 12, 0, 12}},
		{secrets + "jal r1 4\nnop\nnop", taken, []uint32{0, 4, 12, 0, 12}},
		{secrets + "jal r2 4\nnop\nnop", taken, []uint32{0, 4, 12, 0, 8}},
		{secrets + "jal r0 4\nnop\nnop", taken, []uint32{0, 4, 12, 0, 12}},
		{secrets + "jal r3 3\nnop\nnop", taken, []uint32{0, 4, 12, 4, 4}},
		{secrets + "halt\nnop", taken, []uint32{0, 4, 12, 0}},
		{secrets + "jr r4\nnop", 2, []uint32{0, 4, 12, 0}},
		{secrets + "jr r2\nnop", 2, []uint32{0, 4, 12, 0}},
		{secrets + "jr r0\nnop", 2, []uint32{0, 4, 12, 0}},
		{"jr r0", 0, []uint32{0}},
		{"jal r1 1\njr r1", 1, []uint32{0, 0}},
	})
}

// Register 0

func TestRegisterNought(t *testing.T) {
	checkRows(t, hidden, []row{
		{"lw r0 r0 0\nlw r0 r5 1\nadd r0 r0 r0\nbeq r0 r0 0\nlw r1 r0 1\nmul r0 r1 r1\naddi r0 r1 5\nori r0 r1 5\nsw r1 r0 0\nlw r2 r0 0\ndiv r2 r0 r0\njump 0", taken,
			[]uint32{2, 2, 2, 2, 2, 2, 2, 2, 2, 2, 6, 2}},
	})
	for r := 1; r < 32; r++ {
		checkRows(t, hidden, []row{{"lw r" + strconv.Itoa(r) + " r0 0\nnop", taken, []uint32{0, 1 << r}}})
	}
}

// Ways that meet, come back, and end

func TestPlacesWhereWaysMeet(t *testing.T) {
	checkRows(t, mixed, []row{
		// r1 is secret on one of both ways, whichever that is.
		{"beq r0 r0 2\nlw r1 r0 0\nbeq r1 r0 0", 2, []uint32{2, 2, 2}},
		{"beq r0 r0 @b\nlw r1 r0 0\njump @c\nb:\nlw r2 r0 0\nc:\nadd r3 r1 r2\nnop", taken, []uint32{0, 0, 2, 0, 6, 14}},
		{"lw r1 r0 0\nbeq r0 r0 3\nlui r1 0\nbne r1 r0 0", 3, []uint32{2, 2, 2, 2}},
		{"lw r1 r0 0\nbeq r0 r0 3\nlui r1 0\nnop", taken, []uint32{0, 2, 2, 2}},
		// On both ways, and on none.
		{"beq r0 r0 3\nlw r1 r0 0\njump 4\nlw r1 r0 0\nnop", taken, []uint32{0, 0, 2, 0, 2}},
		{"lw r1 r0 0\nbeq r0 r0 4\nlui r1 0\njump 5\nlw r1 r0 1\nbeq r1 r1 5", taken, []uint32{0, 2, 2, 0, 2, 0}},
		// A way that is not gone doesn't count.
		{"jump 3\nlw r1 r0 0\nnop\nbeq r1 r1 4\nhalt\njump 3", taken, []uint32{0, 0, 0, 0, 0, 0}},
	})
}

func TestWaysThatComeBack(t *testing.T) {
	checkRows(t, mixed, []row{
		{"a:\nbeq r1 r0 @b\nlw r1 r0 0\nb:\njump @a", 0, []uint32{2, 2, 2}},
		{"a:\nbeq r1 r0 @b\nlw r1 r0 0\nlui r1 0\nb:\njump @a", taken, []uint32{0, 0, 2, 0}},
		{"beq r1 r1 0", taken, []uint32{0}},
		{"jump 0", taken, []uint32{0}},
		// Each time round, one register more: from 1 to 2, 2 to 3, 3 to 4.
		{"lw r1 r0 0\nadd r5 r4 r0\nadd r4 r3 r0\nadd r3 r2 r0\nadd r2 r1 r0\nbeq r5 r0 1", 5, []uint32{0, 62, 62, 62, 62, 62}},
		{"lw r1 r0 0\nadd r4 r3 r0\nadd r3 r2 r0\nadd r2 r1 r0\nbeq r5 r0 1\ndiv r6 r4 r4", 5, []uint32{0, 30, 30, 30, 30, 30}},
		{"a:\nlw r2 r1 0\nlw r1 r0 0\njump @a", 0, []uint32{6, 6, 6}},
		// A loop within one: what is secret comes to the outer one, too.
		{"nop\nadd r3 r2 r0\nadd r2 r1 r0\nbeq r0 r0 1\nlw r1 r0 0\nbeq r0 r0 0\nhalt", taken, []uint32{14, 14, 14, 14, 14, 14, 14}},
	})
}

func TestPlacesThatNoWayLeadsTo(t *testing.T) {
	checkRows(t, mixed, []row{
		{"halt\nlw r1 r0 0\nbeq r1 r1 0\njr r1", taken, []uint32{0, 0, 0, 0}},
		{"jump 3\nlw r1 r0 0\ndiv r1 r1 r1\nhalt", taken, []uint32{0, 0, 0, 0}},
		{"jump 0\nlw r1 r0 0\njump 0", taken, []uint32{0, 0, 0}},
		{"lw r1 r0 0\nsw r1 r0 2\nsw r1 r0 1", taken, []uint32{0, 2, 0}},
		{"lw r1 r0 9\nlw r1 r0 0\nbne r1 r0 0", taken, []uint32{0, 0, 0}},
		// A place that is not reached is not allowed if a way leads there.
		{"beq r0 r0 3\nhalt\njr r1\njump 2", 2, []uint32{0, 0, 0, 0}},
	})
}

func TestPlacesThatTheCodeHasNot(t *testing.T) {
	checkRows(t, mixed, []row{
		{"lw r1 r0 0", taken, []uint32{0}},
		{"lw r1 r0 0\njump 2", taken, []uint32{0, 2}},
		{"lw r1 r0 0\njump 65535", taken, []uint32{0, 2}},
		{"lw r1 r0 0\njal r1 2", taken, []uint32{0, 2}},
		{"lw r1 r0 0\njal r1 9", taken, []uint32{0, 2}},
		{"lw r1 r0 0\nbeq r0 r0 3\nnop", taken, []uint32{0, 2, 2}},
		{"lw r1 r0 0\nbeq r0 r0 65535\nnop", taken, []uint32{0, 2, 2}},
		{"lw r1 r0 0\nbne r0 r0 0", taken, []uint32{2, 2}},
		{"lw r1 r0 0\nblt r0 r0 2", taken, []uint32{0, 2}},
		{"jump 9\njr r1", taken, []uint32{0, 0}},
		{"jal r1 2\njr r1", taken, []uint32{0, 0}},
		{"beq r0 r0 2\njr r1", 1, []uint32{0, 0}},
	})
}

func TestWordsThatAreNoInstruction(t *testing.T) {
	for _, w := range chart.Strays() {
		for _, x := range []struct {
			text    string
			stray   int
			at      int
			secrets []uint32
		}{
			{"nop\njr r1", 0, taken, []uint32{0, 0}},
			{"lw r1 r0 0\nnop\njr r1", 1, taken, []uint32{0, 2, 0}},
			{"lw r1 r0 0\nbeq r0 r0 3\nnop\nlui r1 0\nnop", 2, taken, []uint32{0, 2, 2, 2, 0}},
			{"lw r1 r0 0\nbeq r1 r0 2\nnop", 2, 1, []uint32{0, 2, 2}},
			{"lw r1 r0 0\nbeq r1 r0 3\nnop\nnop", 3, 1, []uint32{0, 2, 2, 2}},
			// Where no way leads.
			{"jump 2\nnop\nlw r1 r0 0\nlui r1 0", 1, taken, []uint32{0, 0, 0, 2}},
			{"halt\nnop", 1, taken, []uint32{0, 0}},
			{"jr r1\nnop", 1, 0, []uint32{0, 0}},
		} {
			m := parsed(t, mixed+x.text)
			m.Code[x.stray] = w
			want := api.Flaw{Why: api.ErrFlow, Pc: x.at}
			if x.at == taken {
				want = api.Flaw{}
			}
			if got := flow.Check(m); got != want {
				t.Errorf("%q with %#x at %d: Check = %v, want %v", x.text, w, x.stray, got, want)
			}
			if got := flow.Secrets(m); !slices.Equal(got, x.secrets) {
				t.Errorf("%q with %#x at %d: Secrets = %v, want %v", x.text, w, x.stray, got, x.secrets)
			}
		}
	}
}

// Which place is told

func TestFirstOfSeveralThatAreNotAllowed(t *testing.T) {
	checkRows(t, mixed, []row{
		{"jr r1\njr r1", 0, []uint32{0, 0}},
		{"lw r1 r0 0\nbeq r1 r0 2\ndiv r2 r1 r1\nsw r1 r0 1\njr r1", 1, []uint32{0, 2, 2, 6, 6}},
		{"lw r1 r0 0\nnop\ndiv r2 r1 r1\nsw r1 r0 1\njr r1", 2, []uint32{0, 2, 2, 6, 6}},
		{"lw r1 r0 0\nnop\nnop\nsw r1 r0 1\njr r1", 3, []uint32{0, 2, 2, 2, 2}},
		{"lw r1 r0 0\nnop\nnop\nnop\njr r1", 4, []uint32{0, 2, 2, 2, 2}},
		// The first one is that of the least number, not the one that a way comes to first.
		{"jump 3\nrem r2 r1 r1\nhalt\nlw r1 r0 0\nbeq r1 r0 1\njr r1", 1, []uint32{0, 2, 6, 0, 2, 2}},
		{"beq r1 r0 4\nhalt\njr r1\nhalt\nlw r1 r0 0\nsw r1 r0 1\njump 2", 2, []uint32{0, 0, 2, 0, 0, 2, 2}},
		// What comes back makes one wrong that a way came to while it was right.
		{"div r2 r1 r1\nlw r1 r0 0\nbeq r1 r0 3\njump 0", 0, []uint32{6, 6, 6, 6}},
	})
}
