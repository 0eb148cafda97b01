package core_test

import (
	"math"
	"slices"
	"testing"

	"astrolabe/api"
	"astrolabe/chart"
	"astrolabe/core"
)

// edges are words at which sums, comparisons, quotients and addresses turn.
var edges = []int32{0, 1, -1, 2, -2, 3, 7, -7, 31, 32, 255, 1023, 1024, 1025, 2047, 2048, 32767, 32768, -32768, -32769, 65535, 65536, -65536, 16777216, 1 << 30, -1 << 30, 759250125, wordMax, wordMax - 1, wordMin, wordMin + 1}

// ends are numbers that are no register and no address of a memory, some of them such when cut to fewer bits.
var ends = []int{-1, -2, -32, -1024, math.MinInt, math.MinInt + 1, math.MaxInt, math.MaxInt - 1, wordMin, wordMax, wordMin - 1, wordMax + 1,
	1 << 32, 1<<32 + 1, 1<<32 + 5, -1 << 32, -1<<32 + 1, 1 << 62, 1<<62 + 1, 4096, 65536, 65537, 1 << 16 * 3, 2048, 2049}

// ins is an instruction of an operation's name and of what its shape has, in order.
func ins(name string, fields ...int) api.Ins { return chart.Named(name, fields...) }

// pair is a core, and the plain one that it is to be like.
type pair struct {
	c *core.Core
	p *plain
}

// made is a core of instructions and words of memory.
func made(t *testing.T, data []int32, l ...api.Ins) pair {
	t.Helper()
	c, e := core.New(chart.Words(l), data)
	if c == nil || e != api.OK {
		t.Fatalf("New of %d words of code and %d of memory: %v, %v", len(l), len(data), c, e)
	}
	return pair{c, &plain{code: l, ram: slices.Clone(data)}}
}

// filled is a core behind loads of the first words of memory into registers 1 to n, with instructions that stand behind them.
func filled(t *testing.T, n int, data []int32, l ...api.Ins) pair {
	t.Helper()
	var all []api.Ins
	for r := 1; r <= n; r++ {
		all = append(all, ins("lw", r, 0, r-1))
	}
	x := made(t, data, append(all, l...)...)
	x.run(t, n)
	return x
}

// check holds that a core is like the plain one, by all calls that tell of it.
func (x pair) check(t *testing.T) {
	t.Helper()
	c, p := x.c, x.p
	if c.State() != p.state || c.PC() != p.pc || c.Cycles() != p.cycles {
		t.Fatalf("state %d at %d, which cost %d; want %d at %d, %d", c.State(), c.PC(), c.Cycles(), p.state, p.pc, p.cycles)
	}
	for r := range registers {
		if got := c.Reg(r); int64(got) != p.regs[r] {
			t.Fatalf("at %d register %d is %d, want %d", p.pc, r, got, p.regs[r])
		}
	}
	if got := c.Marks(); !slices.Equal(got, p.marks) {
		t.Fatalf("at %d marks are %v, want %v", p.pc, got, p.marks)
	}
	if got := c.Ram(); !slices.Equal(got, p.ram) {
		t.Fatalf("at %d memory is %.99v, want %.99v", p.pc, got, p.ram)
	}
}

// step does a step, and holds what it comes to.
func (x pair) step(t *testing.T) bool {
	t.Helper()
	want := x.p.step()
	if got := x.c.Step(); got != want {
		t.Fatalf("Step() = %t, want %t", got, want)
	}
	x.check(t)
	return want
}

// run does a run, and holds what it comes to.
func (x pair) run(t *testing.T, fuel int) int {
	t.Helper()
	want := x.p.run(fuel)
	if got := x.c.Run(fuel); got != want {
		t.Fatalf("Run(%d) = %d, want %d", fuel, got, want)
	}
	x.check(t)
	return want
}

// begin begins anew, and holds what it comes to.
func (x pair) begin(t *testing.T) {
	t.Helper()
	x.c.Begin()
	x.p.begin()
	x.check(t)
}

// poke puts another word into memory, or holds that there is no such address.
func (x pair) poke(t *testing.T, addr int, word int32) {
	t.Helper()
	want := addr >= 0 && addr < len(x.p.ram)
	if want {
		x.p.ram[addr] = word
	}
	if got := x.c.Poke(addr, word); got != want {
		t.Fatalf("of %d words Poke(%d, %d) = %t", len(x.p.ram), addr, word, got)
	}
	x.check(t)
}

// checkLoad holds what Load says of an address.
func (x pair) checkLoad(t *testing.T, addr int) {
	t.Helper()
	want, is := int32(0), addr >= 0 && addr < len(x.p.ram)
	if is {
		want = x.p.ram[addr]
	}
	if got, ok := x.c.Load(addr); got != want || ok != is {
		t.Fatalf("of %d words Load(%d) = %d, %t, want %d, %t", len(x.p.ram), addr, got, ok, want, is)
	}
}

// checkStopped holds that nothing happens any more.
func (x pair) checkStopped(t *testing.T, state int) {
	t.Helper()
	if got := x.c.State(); got != state {
		t.Fatalf("State() = %d, want %d", got, state)
	}
	for range 2 {
		if x.step(t) {
			t.Fatal("a step of a core that is not running")
		}
		for _, fuel := range []int{0, 1, 100, maxFuel, math.MaxInt} {
			if n := x.run(t, fuel); n != 0 {
				t.Fatalf("a core that is not running ran %d steps", n)
			}
		}
	}
}

// some are n words without a pattern; none is 0.
func some(n int) []int32 {
	l := make([]int32, n)
	x := uint32(1)
	for i := range l {
		x = x*1103515245 + 12345
		l[i] = int32(x | 1)
	}
	return l
}

// nops are n instructions that do nothing.
func nops(n int) []api.Ins { return slices.Repeat([]api.Ins{ins("nop")}, n) }

// The chapter's example.

func TestExample(t *testing.T) {
	x := made(t, []int32{9}, ins("addi", 1, 0, 5), ins("sw", 1, 0, 0), ins("halt"))
	if n := x.c.Run(100); n != 3 {
		t.Errorf("Run(100) = %d, want 3", n)
	}
	if w, ok := x.c.Load(0); w != 5 || !ok {
		t.Errorf("Load(0) = %d, %t, want 5", w, ok)
	}
	if got := x.c.Cycles(); got != 4 {
		t.Errorf("Cycles() = %d, want 4", got)
	}
	want := []api.Mark{{Pc: 0, Addr: -1, Cost: 1}, {Pc: 1, Addr: 0, Cost: 2}, {Pc: 2, Addr: -1, Cost: 1}}
	if got := x.c.Marks(); !slices.Equal(got, want) {
		t.Errorf("Marks() = %v, want %v", got, want)
	}
	if x.c.State() != halted || x.c.PC() != 2 || x.c.Reg(1) != 5 {
		t.Errorf("state %d at %d, with %d in register 1", x.c.State(), x.c.PC(), x.c.Reg(1))
	}
}

// A loop by exact answers: the numbers from 4 down to 1 are summed up, and the sum is stored.
func TestALoopByExactAnswers(t *testing.T) {
	x := made(t, make([]int32, 1030),
		ins("addi", 1, 0, 4),
		ins("add", 2, 2, 1),
		ins("addi", 1, 1, -1),
		ins("bne", 1, 0, 1),
		ins("sw", 2, 0, 1025),
		ins("halt"))
	if n := x.c.Run(15); n != 15 || x.c.State() != halted || x.c.PC() != 5 {
		t.Errorf("%d steps, state %d at %d", n, x.c.State(), x.c.PC())
	}
	if w, _ := x.c.Load(1025); w != 10 || x.c.Reg(2) != 10 {
		t.Errorf("the sum is %d, stored %d", x.c.Reg(2), w)
	}
	want := []api.Mark{{Pc: 0, Addr: -1, Cost: 1},
		{Pc: 1, Addr: -1, Cost: 1}, {Pc: 2, Addr: -1, Cost: 1}, {Pc: 3, Addr: -1, Cost: 3},
		{Pc: 1, Addr: -1, Cost: 1}, {Pc: 2, Addr: -1, Cost: 1}, {Pc: 3, Addr: -1, Cost: 3},
		{Pc: 1, Addr: -1, Cost: 1}, {Pc: 2, Addr: -1, Cost: 1}, {Pc: 3, Addr: -1, Cost: 3},
		{Pc: 1, Addr: -1, Cost: 1}, {Pc: 2, Addr: -1, Cost: 1}, {Pc: 3, Addr: -1, Cost: 1},
		{Pc: 4, Addr: 1025, Cost: 3}, {Pc: 5, Addr: -1, Cost: 1}}
	if got := x.c.Marks(); !slices.Equal(got, want) || x.c.Cycles() != 23 {
		t.Errorf("%v, which cost %d", got, x.c.Cycles())
	}
}

// P16.1: New, Begin

func TestNewIsAsBeginMakesIt(t *testing.T) {
	for _, n := range []int{0, 1, 2, 100, bank, maxRam} {
		x := made(t, some(n), nops(3)...)
		x.check(t)
		x.begin(t)
		if x.c.State() != running || x.c.PC() != 0 || x.c.Cycles() != 0 || len(x.c.Marks()) != 0 {
			t.Errorf("a new core: state %d at %d, cost %d", x.c.State(), x.c.PC(), x.c.Cycles())
		}
	}
}

func TestNewOfTheMostCode(t *testing.T) {
	for _, n := range []int{maxCode, maxCode - 1, 2, 1} {
		x := made(t, nil, append(nops(n-1), ins("halt"))...)
		if got := x.run(t, maxFuel); got != n || x.c.PC() != n-1 {
			t.Errorf("of %d words of code ran %d, to %d", n, got, x.c.PC())
		}
		x.checkStopped(t, halted)
	}
}

func TestNewOfTheMostMemory(t *testing.T) {
	for _, n := range []int{maxRam, maxRam - 1, bank + 1, bank} {
		x := made(t, some(n), ins("lw", 1, 0, n-1), ins("sw", 1, 0, 0), ins("lw", 1, 0, n))
		x.run(t, 9)
		x.checkStopped(t, trapAddr)
	}
}

func TestNewOfTooMuch(t *testing.T) {
	for _, x := range [][2]int{{maxCode + 1, 0}, {maxCode + 1, 5}, {maxCode + 2, 1}, {2 * maxCode, 0}, {65536, 0}, {65537, 1}, {1 << 20, 1},
		{0, maxRam + 1}, {1, maxRam + 1}, {5, maxRam + 2}, {5, 2 * maxRam}, {maxCode, maxRam + 1}, {5, 65536}, {5, 65537},
		{maxCode + 1, maxRam}, {maxCode + 1, maxRam + 1}, {maxCode + 9, 99999}} {
		if c, e := core.New(make([]uint32, x[0]), make([]int32, x[1])); c != nil || e != api.ErrLong {
			t.Errorf("New of %d words of code and %d of memory: %v, %v, want none, %v", x[0], x[1], c, e, api.ErrLong)
		}
	}
	x := made(t, some(maxRam), append(nops(maxCode-1), ins("lw", 1, 0, maxRam-1))...)
	x.run(t, maxCode+1)
	x.checkStopped(t, trapFetch)
}

func TestNewOfNothing(t *testing.T) {
	for _, words := range [][]uint32{nil, {}} {
		for _, data := range [][]int32{nil, {}} {
			c, e := core.New(words, data)
			if c == nil || e != api.OK {
				t.Fatalf("New of nothing: %v, %v", c, e)
			}
			x := pair{c, &plain{}}
			x.check(t)
			x.checkLoad(t, 0)
			x.poke(t, 0, 1)
			if !x.step(t) {
				t.Error("Step of no code = false")
			}
			x.checkStopped(t, trapFetch)
		}
	}
}

func TestNewKeepsNoListThatItIsMadeOf(t *testing.T) {
	l := []api.Ins{ins("lw", 1, 0, 2), ins("sw", 1, 0, 0), ins("addi", 2, 1, 1), ins("halt"), ins("nop")}
	words, data := chart.Words(l), []int32{4, 5, 6, 7}
	c, _ := core.New(words[:4], data[:3])
	x := pair{c, &plain{code: l[:4], ram: []int32{4, 5, 6}}}
	clear(words)
	clear(data)
	x.run(t, 9)
	x.checkStopped(t, halted)
	if !slices.Equal(words, make([]uint32, 5)) || !slices.Equal(data, make([]int32, 4)) {
		t.Errorf("what was handed in is changed: %v, %v", words, data)
	}
}

func TestNewChangesNothingThatItIsHanded(t *testing.T) {
	l := []api.Ins{ins("addi", 1, 0, 8), ins("sw", 1, 0, 0), ins("halt")}
	words, data := chart.Words(l), []int32{1, 2}
	for range 2 {
		c, _ := core.New(words, data)
		x := pair{c, &plain{code: l, ram: slices.Clone(data)}}
		x.run(t, 9)
		x.poke(t, 1, 77)
	}
	if data[0] != 1 || data[1] != 2 {
		t.Errorf("memory's words are %v", data)
	}
}

// stops are programs that end in each of the states.
func stops() map[int][]api.Ins {
	return map[int][]api.Ins{
		running:    {ins("jump", 7)},
		halted:     {ins("halt")},
		trapFetch:  {ins("jump", 60000)},
		trapForm:   {{}},
		trapAddr:   {ins("lw", 3, 0, 5)},
		trapDivide: {ins("div", 3, 1, 0)},
	}
}

func TestBeginBehindARun(t *testing.T) {
	for state, l := range stops() {
		data := []int32{wordMax, -5, 1 << 20, 0, 9}
		x := filled(t, 3, data, append([]api.Ins{ins("sw", 1, 0, 3), ins("add", 31, 1, 2), ins("jal", 30, 6), ins("sw", 30, 0, 4)}, l...)...)
		for again := range 3 {
			x.run(t, 20)
			if got := x.c.State(); got != state || len(x.c.Marks()) < 7 {
				t.Fatalf("the state is %d, want %d, behind %v", got, state, x.c.Marks())
			}
			ram := x.c.Ram()
			x.begin(t)
			if x.c.State() != running || x.c.PC() != 0 || x.c.Cycles() != 0 || len(x.c.Marks()) != 0 || !slices.Equal(x.c.Ram(), ram) {
				t.Fatalf("Begin behind state %d leaves %d at %d", state, x.c.State(), x.c.PC())
			}
			x.poke(t, 0, int32(again))
		}
	}
}

func TestBeginInTheMidst(t *testing.T) {
	l := []api.Ins{ins("lw", 1, 0, 0), ins("addi", 1, 1, 1), ins("sw", 1, 0, 0), ins("jump", 0)}
	x := made(t, []int32{5}, l...)
	for steps := range 12 {
		x.run(t, steps)
		x.begin(t)
	}
	if w, _ := x.c.Load(0); w != 20 { // Of runs of 3 to 6 steps one word is stored, of 7 to 10 two, of 11 three.
		t.Errorf("memory's word is %d", w)
	}
}

// P16.2: Step, Run

func TestRunOfFuel(t *testing.T) {
	l := append(nops(9), ins("halt"))
	for _, fuel := range []int{0, -1, -2, math.MinInt, math.MinInt + 1, -maxFuel, -1 << 32, wordMin} {
		x := made(t, nil, l...)
		if n := x.run(t, fuel); n != 0 || x.c.PC() != 0 || len(x.c.Marks()) != 0 {
			t.Errorf("Run(%d) = %d", fuel, n)
		}
	}
	for fuel := range 14 {
		x := made(t, nil, l...)
		if n := x.run(t, fuel); n != min(fuel, 10) || x.c.PC() != min(fuel, 9) || x.c.Cycles() != n {
			t.Errorf("Run(%d) = %d, to %d", fuel, n, x.c.PC())
		}
		if got, want := x.c.State() == halted, fuel >= 10; got != want {
			t.Errorf("behind Run(%d) the state is %d", fuel, x.c.State())
		}
	}
}

func TestRunOfTheMostFuel(t *testing.T) {
	for _, fuel := range []int{maxFuel - 1, maxFuel, maxFuel + 1, 2 * maxFuel, 1<<32 + 1, 1 << 32, math.MaxInt, math.MaxInt - 1} {
		x := made(t, nil, ins("addi", 1, 1, 1), ins("jump", 0))
		n := x.c.Run(fuel)
		if want := min(fuel, maxFuel); n != want || x.c.State() != running || len(x.c.Marks()) != want || int(x.c.Reg(1)) != (want+1)/2 {
			t.Errorf("Run(%d) = %d, with %d marks", fuel, n, len(x.c.Marks()))
		}
	}
}

func TestRunCountsAStepThatTraps(t *testing.T) {
	for state, l := range stops() {
		if state == running {
			continue
		}
		x := made(t, []int32{3}, append(nops(4), l...)...)
		n := 5
		if state == trapFetch {
			n = 6
		}
		if got := x.run(t, 100); got != n {
			t.Errorf("a run to state %d: %d steps, want %d", state, got, n)
		}
		x.checkStopped(t, state)
	}
}

func TestWhatIsAskedChangesNothing(t *testing.T) {
	x := filled(t, 3, some(9), ins("sw", 1, 0, 8), ins("halt"))
	for range 3 {
		x.check(t)
		for addr := -1; addr <= 9; addr++ {
			x.checkLoad(t, addr)
		}
	}
	x.run(t, 5)
	x.checkStopped(t, halted)
}

func TestCoresKnowNothingOfOneAnother(t *testing.T) {
	l, data := []api.Ins{ins("lw", 1, 0, 0), ins("addi", 1, 1, 7), ins("sw", 1, 0, 0), ins("halt")}, []int32{5, 6}
	a, b := made(t, data, l...), made(t, data, l...)
	c := made(t, a.c.Ram(), l...)
	a.run(t, 9)
	c.step(t)
	c.poke(t, 0, 100)
	b.check(t)
	b.poke(t, 1, -1)
	a.check(t)
	c.run(t, 9)
	a.begin(t)
	b.run(t, 2)
	c.check(t)
	a.run(t, 9)
	b.check(t)
}

// P16.3: State, PC, Reg, Cycles, Marks, Load, Poke, Ram

func TestRegOfOthers(t *testing.T) {
	x := filled(t, 31, some(31), ins("halt"))
	for r := 1; r < registers; r++ {
		if got := x.c.Reg(r); got != some(31)[r-1] {
			t.Errorf("Reg(%d) = %d", r, got)
		}
	}
	for _, r := range append([]int{0, 32, 33, 63, 64, 255, 256, 257}, ends...) {
		if got := x.c.Reg(r); got != 0 {
			t.Errorf("Reg(%d) = %d, want 0", r, got)
		}
	}
}

func TestLoadAndPoke(t *testing.T) {
	for _, n := range []int{0, 1, 2, 3, 1023, bank, bank + 1, 2047, maxRam} {
		x := made(t, some(n), ins("addi", 1, 0, 1), ins("halt"))
		x.step(t)
		for _, addr := range append([]int{0, 1, 2, n / 2, n - 2, n - 1, n, n + 1, -n, 2 * n, bank}, ends...) {
			for _, word := range []int32{5, 0, -1, wordMin, wordMax} {
				x.checkLoad(t, addr)
				x.poke(t, addr, word)
				x.checkLoad(t, addr)
			}
		}
		for addr := range n {
			x.checkLoad(t, addr)
		}
	}
}

func TestWhatIsPokedIsLoadedByTheProgram(t *testing.T) {
	x := made(t, make([]int32, 3), ins("lw", 1, 0, 0), ins("lw", 2, 0, 1), ins("add", 3, 1, 2), ins("sw", 3, 0, 2), ins("halt"))
	x.poke(t, 0, 40)
	x.step(t)
	x.poke(t, 0, 1000)
	x.poke(t, 1, 2)
	x.run(t, 9)
	if w, _ := x.c.Load(2); w != 42 {
		t.Errorf("the sum is %d", w)
	}
	x.poke(t, 2, -1)
	x.checkStopped(t, halted)
	x.begin(t)
	x.run(t, 9)
	if w, _ := x.c.Load(2); w != 1002 {
		t.Errorf("the sum is %d", w)
	}
}

func TestPokeInEachState(t *testing.T) {
	for state, l := range stops() {
		x := filled(t, 2, []int32{6, 7, 8}, append(nops(5), l...)...)
		x.run(t, 20)
		x.poke(t, 1, 70)
		x.poke(t, 3, 71)
		x.checkLoad(t, 1)
		if got := x.c.State(); got != state {
			t.Errorf("the state is %d, want %d", got, state)
		}
	}
}

func TestACoreKeepsNoListThatItAnswers(t *testing.T) {
	x := filled(t, 3, some(5), ins("sw", 1, 0, 4), ins("addi", 1, 1, 1), ins("jump", 3))
	for range 4 {
		marks, ram := x.c.Marks(), x.c.Ram()
		first, second := slices.Clone(marks), slices.Clone(ram)
		for k := range marks {
			marks[k] = api.Mark{Pc: -7, Addr: -7, Cost: -7}
		}
		clear(ram)
		_ = append(append(marks, first...), first...)
		_ = append(append(ram, second...), second...)
		x.check(t)
		marks, ram = x.c.Marks(), x.c.Ram()
		x.run(t, 3)
		if !slices.Equal(marks, first) || !slices.Equal(ram, second) {
			t.Fatal("steps changed what was answered")
		}
	}
	marks := x.c.Marks()
	first := slices.Clone(marks)
	x.begin(t)
	x.run(t, 6)
	x.poke(t, 0, 1)
	if !slices.Equal(marks, first) {
		t.Error("Begin changed what was answered")
	}
}

// checkNone holds that a core is none: 0, false, nothing, by all calls.
func checkNone(t *testing.T, c *core.Core) {
	t.Helper()
	for range 2 {
		c.Begin()
		if c.Step() {
			t.Error("Step() = true")
		}
		for _, fuel := range []int{0, 1, -1, 9, maxFuel, math.MaxInt, math.MinInt} {
			if n := c.Run(fuel); n != 0 {
				t.Errorf("Run(%d) = %d", fuel, n)
			}
		}
		if c.State() != 0 || c.PC() != 0 || c.Cycles() != 0 || len(c.Marks()) != 0 || len(c.Ram()) != 0 {
			t.Errorf("state %d at %d, cost %d, %v, %v", c.State(), c.PC(), c.Cycles(), c.Marks(), c.Ram())
		}
		for _, k := range append([]int{0, 1, 2, 31, 32}, ends...) {
			w, ok := c.Load(k)
			if w != 0 || ok || c.Reg(k) != 0 || c.Poke(k, 1) {
				t.Errorf("of %d: Load %d, %t, Reg %d", k, w, ok, c.Reg(k))
			}
		}
	}
}

func TestNilAndWhatNewDidNotMake(t *testing.T) {
	checkNone(t, nil)
	checkNone(t, new(core.Core))
	checkNone(t, &core.Core{})
	var own core.Core
	checkNone(t, &own)
	made(t, some(9), ins("addi", 1, 0, 1)).step(t)
	checkNone(t, &own)
}

// A copy would share memory with the core that it is one of.
func TestACopyIsNoneThatNewMade(t *testing.T) {
	x := filled(t, 2, some(4), ins("sw", 1, 0, 3), ins("halt"))
	c := *x.c
	checkNone(t, &c)
	x.check(t)
	x.run(t, 9)
	checkNone(t, &c)
	x.checkStopped(t, halted)
}
