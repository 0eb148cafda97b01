package flow_test

import (
	"slices"
	"testing"

	"astrolabe/api"
	"astrolabe/chart"
	"astrolabe/flow"
)

// Both calls, held against the plain reckoning: each operation with each level of its registers, all short code, and code without a pattern.

// allFields goes through an operation's fields, of some registers and some numbers.
func allFields(op int, registers, numbers []int, do func(fields [4]int)) {
	var fill func(k int, fields [4]int)
	fill = func(k int, fields [4]int) {
		if k == len(fields) {
			do(fields)
			return
		}
		from := registers
		switch chart.Shape(op)[k] {
		case '-':
			from = []int{0}
		case 's', 'u':
			from = numbers
		}
		for _, x := range from {
			fields[k] = x
			fill(k+1, fields)
		}
	}
	fill(0, [4]int{})
}

func TestEachOperationWithEachLevel(t *testing.T) {
	// Registers 1 and 3 get the first word, if there is one; others stay open.
	first, third, nop := chart.Named("lw", 1, 0, 0), chart.Named("lw", 3, 0, 0), chart.Named("nop")
	memories := [][]bool{nil, {true}, {false}, {true, true}, {true, false}, {false, true}, {false, false}, {true, false, true}}
	for op := 1; op <= 43; op++ {
		name, flawed, passed := chart.Name(op), 0, 0
		for _, memory := range memories {
			allFields(op, []int{0, 1, 2, 3, 31}, []int{0, 1, 2, 3, 4, 5, 32767}, func(fields [4]int) {
				p := plain{code: []api.Ins{first, third, chart.Ins(op, fields), nop, nop}, secret: memory}
				if check(t, p).flaw.Pc == 2 {
					flawed++
				} else {
					passed++
				}
			})
		}
		if some := name == "jr" || must(name) != ""; some != (flawed > 0) || passed == 0 {
			t.Errorf("%s: %d not allowed, %d allowed", name, flawed, passed)
		}
	}
}

// must are the fields that must not be secret.
func must(name string) string {
	switch name {
	case "div", "rem":
		return "ab"
	case "lw":
		return "a"
	case "sw", "beq", "bne", "blt":
		return "da"
	}
	return ""
}

// Each set of D, A and B secret, the others open, and all of them other registers.
func TestEachFieldThatMustNotBeSecret(t *testing.T) {
	for op := 1; op <= 43; op++ {
		name, shape := chart.Name(op), chart.Shape(op)
		for set := range 8 {
			l, wrong := []api.Ins{}, name == "jr"
			fields := [4]int{}
			for k, letter := range []byte("dab") {
				if shape[k] == '-' {
					continue
				}
				fields[k] = 7 + k
				if set>>k%2 == 1 {
					l = append(l, chart.Named("lw", 7+k, 0, 1))
					wrong = wrong || slices.Contains([]byte(must(name)), letter)
				}
			}
			l = append(l, chart.Ins(op, fields))
			want := api.Flaw{}
			if wrong {
				want = api.Flaw{Why: api.ErrFlow, Pc: len(l) - 1}
			}
			p := plain{code: l, secret: []bool{false, true, false}}
			if got := flow.Check(p.image()); got != want {
				t.Errorf("Check of %v = %v, want %v", l, got, want)
			}
			check(t, p)
		}
	}
}

// Of lw and sw, by A that is 0 or another one, by the level of D, and by words of which one, none or each is secret, of any number.
func TestAllMemoriesOfFewWords(t *testing.T) {
	for length := range 5 {
		for set := range 1 << length {
			memory := make([]bool, length)
			for addr := range memory {
				memory[addr] = set>>addr%2 == 1
			}
			for _, name := range []string{"lw", "sw"} {
				allFields(chart.Op(name), []int{0, 1, 2}, numbers(0, length+2), func(fields [4]int) {
					// Register 1 is secret, if a word is; register 2 is open.
					l := []api.Ins{chart.Named("lw", 1, 2, 0), chart.Ins(chart.Op(name), fields), chart.Named("beq", 1, 1, 3), chart.Named("beq", 2, 2, 4), chart.Named("nop")}
					check(t, plain{code: l, secret: memory})
				})
			}
		}
	}
}

// each goes through all code of n places of some instructions.
func each(n int, kinds []api.Ins, do func(l []api.Ins)) {
	l := make([]api.Ins, n)
	var fill func(k int)
	fill = func(k int) {
		if k == n {
			do(l)
			return
		}
		for _, i := range kinds {
			l[k] = i
			fill(k + 1)
		}
	}
	fill(0)
}

func TestAllCodeOfFewPlaces(t *testing.T) {
	few := []api.Ins{{}, chart.Named("halt"), chart.Named("lw", 1, 0, 0), chart.Named("lui", 1, 0), chart.Named("add", 2, 1, 0)}
	more := append(slices.Clone(few), chart.Named("nop"), chart.Named("jr", 1), chart.Named("lw", 1, 0, 1), chart.Named("lw", 2, 1, 0), chart.Named("lw", 1, 0, 2), chart.Named("sw", 1, 0, 0), chart.Named("sw", 1, 0, 1), chart.Named("sw", 2, 1, 0), chart.Named("div", 1, 2, 2))
	taken, refused := 0, 0
	for n := 1; n <= 4; n++ {
		kinds := slices.Clone(more)
		if n == 4 {
			kinds = slices.Clone(few)
		}
		for to := range n + 1 {
			kinds = append(kinds, chart.Named("jump", to), chart.Named("beq", 1, 0, to), chart.Named("bne", 0, 2, to))
			if n < 4 {
				kinds = append(kinds, chart.Named("jal", 1, to))
			}
		}
		each(n, kinds, func(l []api.Ins) {
			if check(t, plain{code: l, secret: []bool{true, false}}).flaw.Why == api.OK {
				taken++
			} else {
				refused++
			}
		})
	}
	if taken < 100000 || refused < 5000 {
		t.Errorf("%d taken, %d refused", taken, refused)
	}
}

// some is an image without a pattern: of few registers, so that they meet, with places near and within the code, and addresses within memory, mostly.
func some(c *chart.Chance, places int) plain {
	p := plain{code: make([]api.Ins, places), secret: make([]bool, c.Below(6))}
	for addr := range p.secret {
		p.secret[addr] = c.Below(2) == 0
		if c.Below(3) == 0 {
			p.in = append(p.in, addr)
		}
	}
	if c.Below(3) > 0 {
		p.in = nil
	}
	registers := 3 + c.Below(30)
	for at := range p.code {
		p.code[at] = someIns(c, p, at, registers)
	}
	return p
}

// someIns is an instruction without a pattern.
func someIns(c *chart.Chance, p plain, at, registers int) api.Ins {
	op := 1 + c.Below(43)
	if c.Below(2) == 0 {
		op = chart.Op([]string{"lw", "lw", "lw", "add", "neg", "beq", "blt", "sw"}[c.Below(8)])
	}
	if name := chart.Name(op); c.Below(40) == 0 {
		return api.Ins{}
	} else if c.Below(8) > 0 && (name == "halt" || name == "jr" || name == "jump" || name == "jal") {
		op = chart.Op("nop")
	}
	fields := [4]int{}
	for k, letter := range []byte(chart.Shape(op)) {
		switch {
		case letter == '-':
		case k < 3:
			fields[k] = c.Below(registers)
		case letter == 's':
			fields[k] = c.Below(5) - 2
		default:
			fields[k] = []int{c.Below(len(p.code) + 1), min(max(at+c.Below(9)-4, 0), len(p.code))}[c.Below(2)]
		}
	}
	if name := chart.Name(op); name == "lw" || name == "sw" {
		fields[1] *= c.Below(2)
		fields[3] = c.Below(len(p.secret) + 1)
		if c.Below(8) > 0 {
			fields[3] = min(fields[3], max(len(p.secret)-1, 0))
		}
	}
	return chart.Ins(op, fields)
}

func TestCodeWithoutAPattern(t *testing.T) {
	c := chart.Chance(1)
	told, places, levels := map[int]int{}, 0, map[uint32]int{}
	for k := range 80000 {
		x := check(t, some(&c, 1+c.Below(10+k%4*10)))
		switch {
		case x.flaw.Why == api.OK:
			told[taken]++
		default:
			told[min(x.flaw.Pc, 9)]++
		}
		for _, s := range x.secrets {
			places++
			levels[s]++
		}
	}
	for at := -2; at <= 9; at++ {
		if told[at] < 200 {
			t.Errorf("%d is told of %d", at, told[at])
		}
	}
	if some := places - levels[0]; some < places/5 || some > places*4/5 || len(levels) < 3000 {
		t.Errorf("%d places of %d have something that is secret; %d sets of registers", some, places, len(levels))
	}
}

func TestLongerCodeWithoutAPattern(t *testing.T) {
	c := chart.Chance(2)
	for k := range 40 {
		check(t, some(&c, 200+k*30))
	}
}

// Secrets that come to be so register by register, each time that a way as long as code may be comes back.
func TestTheLongestWaysThatComeBack(t *testing.T) {
	const most = 16384
	p := plain{code: slices.Repeat([]api.Ins{chart.Named("nop")}, most), secret: []bool{true}}
	for r := 31; r > 1; r-- {
		p.code[100*(32-r)] = chart.Named("add", r, r-1, 0)
	}
	p.code[9000] = chart.Named("lw", 1, 0, 0)
	p.code[most-1] = chart.Named("beq", 0, 0, 0)
	if x := check(t, p); x.flaw.Why != api.OK || x.secrets[0] != 1<<32-2 {
		t.Errorf("%v, %#x", x.flaw, x.secrets[0])
	}
	p.code[most-2] = chart.Named("div", 0, 0, 31)
	if x := check(t, p); x.flaw != (api.Flaw{Why: api.ErrFlow, Pc: most - 2}) {
		t.Errorf("%v", x.flaw)
	}
}

func TestTheLongestWayFromTheLastPlaceBack(t *testing.T) {
	const most = 16384
	l := make([]api.Ins, most)
	for at := range l {
		l[at] = chart.Named("jump", max(at-1, 0))
	}
	l[0], l[1] = chart.Named("lw", 1, 0, 0), chart.Named("jump", most-1)
	l[2] = chart.Named("beq", 0, 0, 1)
	x := check(t, plain{code: l, secret: []bool{true}})
	if x.flaw.Why != api.OK || x.secrets[0] != 0 || slices.Contains(x.secrets[1:], 0) {
		t.Errorf("%v, %v", x.flaw, x.secrets[:9])
	}
}

// Many places, of which each goes on to many by way of the others, and each of which may be any of memory's words.
func TestAsManyWaysAndWordsAsMayBe(t *testing.T) {
	c := chart.Chance(3)
	const most = 16384
	p := plain{code: make([]api.Ins, most), secret: slices.Repeat([]bool{true}, 2048)}
	for at := range p.code {
		p.code[at] = chart.Named("beq", 0, 0, c.Below(most))
		if c.Below(2) == 0 {
			p.code[at] = chart.Named("add", 1+c.Below(31), 1+c.Below(31), 1+c.Below(31))
		}
		if c.Below(20) == 0 {
			p.code[at] = chart.Named("lw", 1+c.Below(31), c.Below(32), c.Below(2048))
		}
		if c.Below(20) == 0 {
			p.code[at] = chart.Named("lui", 1+c.Below(31), c.Below(65536))
		}
	}
	check(t, p)
	p.secret[2047] = false
	check(t, p)
}

// What is handed in, and what is answered

func TestNothingIsChangedOrKept(t *testing.T) {
	c := chart.Chance(4)
	for range 200 {
		p := some(&c, 1+c.Below(30))
		m, same := p.image(), p.image()
		m.Out, same.Out = nil, nil
		first, flaw := flow.Secrets(m), flow.Check(m)
		other := slices.Clone(first)
		clear(first[:len(first)/2])
		if got := flow.Secrets(m); !slices.Equal(got, other) || flow.Check(m) != flaw {
			t.Fatalf("asked again, Secrets = %v, want %v; Check = %v, want %v", got, other, flow.Check(m), flaw)
		}
		if !slices.Equal(m.Code, same.Code) || !slices.Equal(m.Data, same.Data) || !slices.Equal(m.Secret, same.Secret) || !slices.Equal(m.In, same.In) {
			t.Fatalf("%v became %v", same, m)
		}
		// What the words of memory are does not matter.
		for k := range m.Data {
			m.Data[k] = 1<<31 - 1
		}
		if got := flow.Secrets(m); !slices.Equal(got, other) || flow.Check(m) != flaw {
			t.Fatalf("of other words, Secrets = %v, want %v; Check = %v, want %v", got, other, flow.Check(m), flaw)
		}
	}
}
