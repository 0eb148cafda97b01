package build_test

import (
	"math"
	"slices"
	"testing"

	"astrolabe/api"
	"astrolabe/build"
	"astrolabe/chart"
	"astrolabe/code"
	"astrolabe/line"
)

// The reckoning of the tests is the chapter's: all that a builder took, in order, gone through anew for each answer. Words are those of package chart, not of layer 13.

// most is how many instructions code has at most.
const most = 16384

// noNames are texts that are none.
var noNames = chart.NoNames()

// far are numbers that are neither a register nor a count, some of which would be one when cut to fewer bits.
var far = []int{-65536, -65535, -256, -255, -32, -31, 65536, 65537, 65538, 1 << 31, 1<<31 + 1, -1 << 31, -1<<31 + 1, 1 << 32, 1<<32 + 1, 1<<32 + 2, -1 << 32, -1<<32 + 1, math.MinInt, math.MinInt + 1, math.MinInt + 5, math.MaxInt - 1, math.MaxInt}

// gone are the operations whose N is a name's place.
var gone = []int{api.OpBeq, api.OpBne, api.OpBlt, api.OpJump, api.OpJal}

// item is what a builder took: a name of the place behind all instructions ahead (label), or an instruction, whose N is the name's place, if it has a name.
type item struct {
	label bool
	name  string
	op    int
	field [4]int
}

// plain is all that a builder took, in order.
type plain []item

// ins: an instruction without a name.
func ins(op int, field ...int) item {
	x := item{op: op}
	copy(x.field[:], field)
	return x
}

// addi: the instruction.
func addi(d, a, n int) item { return ins(api.OpAddi, d, a, 0, n) }

// count is how many instructions there are.
func (p plain) count() int {
	n := 0
	for _, x := range p {
		if !x.label {
			n++
		}
	}
	return n
}

// place is a name's: how many instructions stand ahead of its label.
func (p plain) place(name string) (int, bool) {
	for k, x := range p {
		if x.label && x.name == name {
			return p[:k].count(), true
		}
	}
	return 0, false
}

// labelError is the error of a name that is to have a place.
func (p plain) labelError(name string) api.Errno {
	if !chart.IsName(name) {
		return api.ErrName
	}
	if _, twice := p.place(name); twice {
		return api.ErrTwice
	}
	return api.OK
}

// goError is the error of an instruction that is to go to a name.
func goError(op, d, a int, name string) api.Errno {
	if !slices.Contains(gone, op) {
		return api.ErrArg
	}
	if e := chart.Error(op, [4]int{d, a, 0, 0}); e != api.OK {
		return e
	}
	if !chart.IsName(name) {
		return api.ErrName
	}
	return api.OK
}

// loopError is the error of a loop.
func (p plain) loopError(c, l, n int, name string) api.Errno {
	if c < 1 || c > 31 || l < 1 || l > 31 || c == l || n < 1 || n > 32767 {
		return api.ErrRange
	}
	return p.labelError(name)
}

// setting are the instructions that put a number into a register.
func setting(d int, n int32) []item {
	if n >= -32768 && n <= 32767 {
		return []item{addi(d, 0, int(n))}
	}
	all := int64(n)
	if all < 0 {
		all += 4294967296
	}
	return []item{ins(api.OpLui, d, 0, 0, int(all/65536)), ins(api.OpOri, d, d, 0, int(all%65536))}
}

// finish is what Finish is to answer.
func (p plain) finish() ([]uint32, string, api.Errno) {
	places := map[string]int{}
	at := 0
	for _, x := range p {
		if x.label {
			places[x.name] = at
		} else {
			at++
		}
	}
	var l []uint32
	for _, x := range p {
		if x.label {
			continue
		}
		if x.name != "" {
			place, ok := places[x.name]
			if !ok {
				return nil, x.name, api.ErrNone
			}
			x.field[3] = place
		}
		l = append(l, chart.Word(x.op, x.field))
	}
	if len(l) > most {
		return nil, "", api.ErrLong
	}
	return l, "", api.OK
}

// pair is a builder, and what it took.
type pair struct {
	b    *build.Builder
	took plain
}

// made is a builder without instructions.
func made(t *testing.T) *pair {
	t.Helper()
	b := build.New()
	if b == nil {
		t.Fatal("New() = nil")
	}
	return &pair{b: b}
}

// check holds all that a builder tells.
func (p *pair) check(t *testing.T) {
	t.Helper()
	if got, want := p.b.Len(), p.took.count(); got != want {
		t.Fatalf("behind %d items: Len() = %d, want %d", len(p.took), got, want)
	}
	l, name, e := p.took.finish()
	p.checkFinish(t, l, name, e)
}

// checkFinish holds just what Finish answers.
func (p *pair) checkFinish(t *testing.T, l []uint32, name string, e api.Errno) {
	t.Helper()
	if got, s, f := p.b.Finish(); !slices.Equal(got, l) || s != name || f != e {
		t.Fatalf("behind %d items: Finish() = %d words, %q, %v, want %d words, %q, %v", len(p.took), len(got), s, f, len(l), name, e)
	}
}

// checkLines holds the lines of the code that is made.
func (p *pair) checkLines(t *testing.T, want ...string) {
	t.Helper()
	l, name, e := p.b.Finish()
	if name != "" || e != api.OK {
		t.Fatalf("Finish() = %q, %v", name, e)
	}
	var got []string
	for _, w := range l {
		i, _ := code.Decode(w)
		s, _ := line.Text(i)
		got = append(got, s)
	}
	if !slices.Equal(got, want) {
		t.Fatalf("Finish() is %q, want %q", got, want)
	}
}

// answered holds an answer, and takes items if it is OK.
func (p *pair) answered(t *testing.T, call string, got, want api.Errno, items ...item) {
	t.Helper()
	if got != want {
		t.Fatalf("behind %d items: %s: %v, want %v", len(p.took), call, got, want)
	}
	if want == api.OK {
		p.took = append(p.took, items...)
	}
}

// ins asks for an instruction.
func (p *pair) ins(t *testing.T, op int, field [4]int) {
	t.Helper()
	p.answered(t, "Ins", p.b.Ins(chart.Ins(op, field)), chart.Error(op, field), item{op: op, field: field})
}

// nops asks for so many instructions.
func (p *pair) nops(t *testing.T, n int) {
	t.Helper()
	for range n {
		p.ins(t, api.OpNop, [4]int{})
	}
}

// label asks for a name's place.
func (p *pair) label(t *testing.T, name string) {
	t.Helper()
	p.answered(t, "Label of "+name, p.b.Label(name), p.took.labelError(name), item{label: true, name: name})
}

// goTo asks for an instruction that goes to a name.
func (p *pair) goTo(t *testing.T, op, d, a int, name string) {
	t.Helper()
	p.answered(t, "Go to "+name, p.b.Go(op, d, a, name), goError(op, d, a, name), item{name: name, op: op, field: [4]int{d, a}})
}

// jump asks for one to a name.
func (p *pair) jump(t *testing.T, name string) {
	t.Helper()
	p.goTo(t, api.OpJump, 0, 0, name)
}

// set asks for a number in a register.
func (p *pair) set(t *testing.T, d int, n int32) {
	t.Helper()
	want := api.OK
	if d < 0 || d > 31 {
		want = api.ErrRange
	}
	p.answered(t, "Set", p.b.Set(d, n), want, setting(d, n)...)
}

// loop asks for a loop; do is to be called just if there is no error, just once, and behind what begins the loop.
func (p *pair) loop(t *testing.T, c, l, n int, name string, do func()) {
	t.Helper()
	want, times := p.took.loopError(c, l, n, name), 0
	inside := func() {
		times++
		p.took = append(p.took, addi(c, 0, 0), addi(l, 0, n), item{label: true, name: name})
		if got, want := p.b.Len(), p.took.count(); got != want {
			t.Fatalf("within a loop Len() = %d, want %d", got, want)
		}
		if do != nil {
			do()
		}
	}
	p.answered(t, "Loop of "+name, p.b.Loop(c, l, n, name, inside), want, addi(c, c, 1), item{name: name, op: api.OpBlt, field: [4]int{c, l}})
	if called := want == api.OK; called != (times == 1) || times > 1 {
		t.Fatalf("do was called %d times", times)
	}
}

// bare asks for a loop with a nil do.
func (p *pair) bare(t *testing.T, c, l, n int, name string) {
	t.Helper()
	p.answered(t, "Loop of "+name, p.b.Loop(c, l, n, name, nil), p.took.loopError(c, l, n, name), addi(c, 0, 0), addi(l, 0, n), item{label: true, name: name}, addi(c, c, 1), item{name: name, op: api.OpBlt, field: [4]int{c, l}})
}

// checkNone holds that a builder is none: ErrNil, 0, nothing, by all calls.
func checkNone(t *testing.T, b *build.Builder) {
	t.Helper()
	is := func(call string, e api.Errno) {
		t.Helper()
		if e != api.ErrNil {
			t.Fatalf("%s: %v, want %v", call, e, api.ErrNil)
		}
	}
	for range 2 {
		for _, op := range append([]int{api.OpNop, api.OpJump, api.OpBeq, api.OpAddi}, chart.Others()...) {
			for _, r := range []int{0, 1, 31, 32, -1} {
				is("Ins", b.Ins(api.Ins{Op: op, D: r}))
				for _, name := range []string{"a", "B", ""} {
					is("Go", b.Go(op, r, 0, name))
				}
			}
		}
		for _, name := range append([]string{"a", "b_1"}, noNames...) {
			is("Label", b.Label(name))
			for _, n := range []int{1, 0, 32768} {
				called := func() { t.Fatal("do is called") }
				is("Loop", b.Loop(1, 2, n, name, called))
				is("Loop", b.Loop(1, 1, n, name, called))
				is("Loop", b.Loop(0, 32, n, name, nil))
			}
		}
		for _, n := range []int32{0, 1, 32767, 32768, -32769} {
			is("Set", b.Set(1, n))
			is("Set", b.Set(32, n))
			is("Set", b.Set(-1, n))
		}
		if n := b.Len(); n != 0 {
			t.Fatalf("Len() = %d, want 0", n)
		}
		if l, name, e := b.Finish(); len(l) != 0 || name != "" || e != api.ErrNil {
			t.Fatalf("Finish() = %v, %q, %v, want nothing, %v", l, name, e, api.ErrNil)
		}
	}
}
