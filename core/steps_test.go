package core_test

import (
	"slices"
	"testing"

	"astrolabe/api"
	"astrolabe/chart"
	"astrolabe/core"
)

// What each operation does, and costs; what no one of them does; and what follows.

// checkOne does one instruction behind loads of the first words into registers 1 to n, and holds that it left one mark.
func checkOne(t *testing.T, n int, data []int32, i api.Ins) pair {
	t.Helper()
	x := filled(t, n, data, i)
	if !x.step(t) {
		t.Fatalf("%+v did nothing", i)
	}
	if got := len(x.c.Marks()); got != n+1 {
		t.Fatalf("%+v of %v: %d marks, want %d", i, data, got, n+1)
	}
	return x
}

// told is what an operation makes of two words.
type told struct {
	name string
	a, b int32
	x    int32
	cost int
}

func TestWhatReckonsByExactAnswers(t *testing.T) {
	for _, r := range []told{
		{"add", wordMax, 2, wordMin + 1, 1}, {"sub", wordMin, 1, wordMax, 1}, {"sub", 5, 7, -2, 1}, {"adds", wordMax, 2, wordMax, 1}, {"subs", wordMin, 1, wordMin, 1},
		{"and", 12, 10, 8, 1}, {"or", 12, 10, 14, 1}, {"xor", 12, 10, 6, 1}, {"bic", 12, 10, 4, 1},
		{"shl", 3, 33, 6, 1}, {"shr", -1, 28, 15, 1}, {"sar", -16, 2, -4, 1}, {"rol", wordMin, 1, 1, 1},
		{"slt", -1, 1, 1, 1}, {"slt", 1, -1, 0, 1}, {"sltu", 1, -1, 1, 1}, {"sltu", -1, 1, 0, 1}, {"seq", 4, 4, 1, 1}, {"min", -4, 3, -4, 1}, {"max", -4, 3, 3, 1},
		{"mul", 65536, 65537, 65536, 3}, {"mulh", 1 << 30, -8, -2, 3}, {"mulq", 1 << 29, 7, 4, 3}, {"mulr", 32768, 7, 4, 3},
		{"div", -7, 2, -3, 5}, {"rem", -7, 2, -1, 5}, {"div", 0, 5, 0, 2}, {"rem", 0, 5, 0, 2}, {"div", wordMin, -1, wordMin, 34}, {"rem", wordMin, -1, 0, 34}, {"div", wordMax, 1, wordMax, 33}, {"rem", 2, wordMax, 2, 4}, {"div", 1, wordMin, 0, 3},
		{"clz", 5, 9, 29, 1}, {"neg", wordMin, 9, wordMax, 1}, {"abs", -5, 9, 5, 1}, {"mask", 5, 9, -1, 1}, {"sign", -5, 9, -1, 1}, {"half", 65535, 9, -1, 1}, {"high", -65537, 9, -2, 1},
	} {
		i := ins(r.name, 3, 1, 2, 0)
		if got := checkOne(t, 2, []int32{r.a, r.b}, i); got.c.Reg(3) != r.x || got.c.Marks()[2] != (api.Mark{Pc: 2, Addr: -1, Cost: r.cost}) || got.c.PC() != 3 {
			t.Errorf("%s of %d and %d is %d, want %d; %v, want cost %d", r.name, r.a, r.b, got.c.Reg(3), r.x, got.c.Marks()[2], r.cost)
		}
	}
}

// reckons are the operations that reckon.
const reckons = 30

func TestWhatReckonsOfManyWords(t *testing.T) {
	for op := 1; op <= reckons; op++ {
		for _, a := range edges {
			for _, b := range edges {
				if b == 0 && (chart.Name(op) == "div" || chart.Name(op) == "rem") {
					continue
				}
				checkOne(t, 2, []int32{a, b}, ins(chart.Name(op), 3, 1, 2, 0))
			}
		}
	}
}

// Operands may be one and the same register, and what is put there is not yet read.
func TestWhatReckonsOnEachRegister(t *testing.T) {
	data := some(31)
	for op := 1; op <= reckons; op++ {
		divides := chart.Name(op) == "div" || chart.Name(op) == "rem"
		for _, r := range [][3]int{{1, 1, 2}, {2, 1, 2}, {1, 1, 1}, {3, 1, 1}, {31, 30, 29}, {0, 1, 2}, {0, 0, 2}, {5, 0, 2}, {5, 2, 0}, {5, 0, 0}, {16, 31, 31}, {30, 16, 15}} {
			if divides && r[2] == 0 {
				continue
			}
			checkOne(t, 31, data, ins(chart.Name(op), r[0], r[1], r[2]))
		}
	}
}

func TestWhatAQuotientCostsHangsOnWhatIsRead(t *testing.T) {
	for _, name := range []string{"div", "rem"} {
		for n := range 32 {
			a := int32(uint32(1)<<n - 1)
			for _, word := range []int32{a, -a} {
				for d := range 4 {
					x := checkOne(t, 2, []int32{word, 3}, ins(name, d, 1, 2))
					if got := x.c.Marks()[2].Cost; got != 2+n {
						t.Errorf("%s r%d of %d by 3 costs %d, want %d", name, d, word, got, 2+n)
					}
				}
			}
		}
	}
}

func TestEachReckoningCost(t *testing.T) {
	for op := 1; op <= reckons; op++ {
		want := 1
		switch chart.Name(op) {
		case "mul", "mulh", "mulq", "mulr":
			want = 3
		case "div", "rem":
			want = 6 // 2, and the bits of 9
		}
		x := checkOne(t, 2, []int32{-9, 4}, ins(chart.Name(op), 3, 1, 2))
		if got := x.c.Marks()[2]; got != (api.Mark{Pc: 2, Addr: -1, Cost: want}) {
			t.Errorf("%s leaves %v, want cost %d", chart.Name(op), got, want)
		}
	}
}

func TestNumbersByExactAnswers(t *testing.T) {
	for _, r := range []struct {
		i    api.Ins
		a, x int32
	}{
		{ins("addi", 2, 1, -1), 5, 4}, {ins("addi", 2, 1, -32768), wordMin, wordMax - 32767}, {ins("addi", 2, 1, 32767), wordMax, wordMin + 32766}, {ins("addi", 2, 0, -32768), 5, -32768}, {ins("addi", 1, 1, 1), -1, 0},
		{ins("ori", 2, 1, 65535), 65536, 131071}, {ins("ori", 2, 1, 32768), -65536, -32768}, {ins("ori", 2, 1, 1), wordMin, wordMin + 1}, {ins("ori", 2, 1, 3), 5, 7}, {ins("ori", 2, 0, 65535), 5, 65535},
		{ins("lui", 2, 1), 5, 65536}, {ins("lui", 2, 32768), 5, wordMin}, {ins("lui", 2, 65535), 5, -65536}, {ins("lui", 2, 32767), 5, 2147418112}, {ins("lui", 2, 0), 5, 0},
	} {
		x := checkOne(t, 1, []int32{r.a}, r.i)
		if got := x.c.Reg(r.i.D); got != r.x || x.c.Marks()[1] != (api.Mark{Pc: 1, Addr: -1, Cost: 1}) {
			t.Errorf("%+v of %d is %d, want %d; %v", r.i, r.a, got, r.x, x.c.Marks()[1])
		}
	}
}

func TestNumbersOfManyWords(t *testing.T) {
	for _, name := range []string{"addi", "ori", "lui"} {
		op := ins(name, 0, 0, 0).Op
		for _, n := range chart.Within(chart.Shape(op)[3]) {
			for _, a := range edges {
				for _, r := range [][2]int{{2, 1}, {1, 1}, {31, 1}, {2, 0}, {0, 1}, {0, 0}} {
					i := api.Ins{Op: op, D: r[0], A: r[1], N: n}
					if name == "lui" {
						i.A = 0
					}
					checkOne(t, 1, []int32{a}, i)
				}
			}
		}
	}
}

func TestWhatIsPutIntoRegister0IsLost(t *testing.T) {
	data := []int32{77, 78, 79}
	for op := 1; op <= 43; op++ {
		if chart.Shape(op)[0] != 'd' {
			continue
		}
		i := api.Ins{Op: op, A: 1, N: 2}
		switch chart.Shape(op)[1:] {
		case "ab-":
			i.N, i.B = 0, 2
		case "a--":
			i.N = 0
		case "--u":
			i.A = 0
		}
		if name := chart.Name(op); name == "lw" || name == "sw" {
			i.A = 0
		}
		x := filled(t, 2, data, i, ins("add", 3, 0, 0), ins("addi", 4, 0, 1))
		x.step(t)
		if got := x.c.Reg(0); got != 0 {
			t.Errorf("%+v: register 0 is %d", i, got)
		}
		x.run(t, 2)
	}
}

// P16.2's addresses.

func TestAddressesByExactAnswers(t *testing.T) {
	for _, r := range []struct {
		a    int32
		n    int
		addr int
		cost int
	}{
		{0, 0, 0, 2}, {0, 1023, 1023, 2}, {0, 1024, 1024, 3}, {0, 2047, 2047, 3}, {1023, 0, 1023, 2}, {1024, 0, 1024, 3}, {1000, 23, 1023, 2}, {1000, 24, 1024, 3},
		{-1, 1, 0, 2}, {-1, 1024, 1023, 2}, {-1, 1025, 1024, 3}, {-65535, 65535, 0, 2}, {-63488, 65535, 2047, 3}, {-64512, 65535, 1023, 2}, {-64511, 65535, 1024, 3}, {-32768, 32768, 0, 2}, {-32768, 33000, 232, 2},
	} {
		data := some(maxRam)
		data[0], data[1] = r.a, 4242
		x := checkOne(t, 2, data, ins("lw", 3, 1, r.n))
		if got := x.c.Marks()[2]; got != (api.Mark{Pc: 2, Addr: r.addr, Cost: r.cost}) || x.c.Reg(3) != data[r.addr] {
			t.Errorf("lw at %d and %d: %d, %v", r.a, r.n, x.c.Reg(3), got)
		}
		x = checkOne(t, 2, data, ins("sw", 2, 1, r.n))
		if got := x.c.Marks()[2]; got != (api.Mark{Pc: 2, Addr: r.addr, Cost: r.cost}) || x.c.Ram()[r.addr] != 4242 {
			t.Errorf("sw at %d and %d: %d, %v", r.a, r.n, x.c.Ram()[r.addr], got)
		}
	}
}

// lengths are such as memories of some words may have; near are numbers next to them, and next to what turns.
var (
	lengths = []int{2, 3, 100, 1023, 1024, 1025, 2047, 2048}
	near    = []int32{0, 1, 2, 3, 99, 100, 101, 1022, 1023, 1024, 1025, 1026, 2046, 2047, 2048, 2049, 4096, 65535, 65536, -1, -2, -100, -1024, -2048, -32768, -63488, -63487, -65534, -65535, -65536, -65537, wordMin, wordMin + 1, wordMin + 2048, wordMax, wordMax - 1, wordMax - 65535}
)

func TestAddressesOfManyMemories(t *testing.T) {
	times := map[int]int{}
	for _, length := range lengths {
		for _, a := range near {
			for _, n := range []int{0, 1, 2, 99, 100, 1023, 1024, 1025, 2047, 2048, 4096, 32767, 32768, 63488, 65534, 65535} {
				data := some(length)
				data[0] = a
				for _, i := range []api.Ins{ins("lw", 3, 1, n), ins("sw", 2, 1, n)} {
					x := filled(t, 2, data, i, ins("halt"))
					x.run(t, 2)
					times[x.c.State()]++
				}
			}
		}
	}
	if times[halted] < 1000 || times[trapAddr] < 1000 || len(times) != 2 {
		t.Errorf("ends: %v", times)
	}
}

func TestEachAddress(t *testing.T) {
	data := some(maxRam)
	for addr := range maxRam {
		x := made(t, data, ins("lw", 1, 0, addr), ins("sw", 1, 0, (addr+1)%maxRam), ins("lw", 0, 0, addr), ins("sw", 0, 0, addr), ins("lw", 1, 0, addr))
		for range 5 {
			x.p.step()
			x.c.Step()
		}
		x.check(t)
	}
}

// A register may be both the address and what is loaded there, or stored.
func TestAnAddressRegisterThatIsLoaded(t *testing.T) {
	data := []int32{1, 3, 2, -9, 5}
	for _, i := range []api.Ins{ins("lw", 1, 1, 0), ins("lw", 1, 1, 2), ins("lw", 0, 1, 1), ins("sw", 1, 1, 0), ins("sw", 1, 1, 3), ins("sw", 0, 1, 1), ins("lw", 2, 0, 4), ins("sw", 2, 0, 4)} {
		checkOne(t, 2, data, i)
	}
}

// Ways.

func TestBranchesByExactAnswers(t *testing.T) {
	for _, r := range []struct {
		name  string
		d, a  int32
		taken bool
	}{
		{"beq", 5, 5, true}, {"beq", 5, 4, false}, {"beq", 4, 5, false}, {"beq", wordMin, wordMin, true}, {"beq", 0, wordMin, false}, {"beq", 1, 65537, false},
		{"bne", 5, 5, false}, {"bne", 5, 4, true}, {"bne", 4, 5, true}, {"bne", wordMin, wordMin, false}, {"bne", 0, wordMin, true}, {"bne", 1, 65537, true},
		{"blt", 5, 5, false}, {"blt", 5, 4, false}, {"blt", 4, 5, true}, {"blt", wordMin, wordMax, true}, {"blt", wordMax, wordMin, false}, {"blt", -1, 0, true}, {"blt", 0, -1, false}, {"blt", -1, 1, true},
	} {
		x := checkOne(t, 2, []int32{r.d, r.a}, ins(r.name, 1, 2, 777))
		want, pc := api.Mark{Pc: 2, Addr: -1, Cost: 1}, 3
		if r.taken {
			want.Cost, pc = 3, 777
		}
		if got := x.c.Marks()[2]; got != want || x.c.PC() != pc {
			t.Errorf("%s of %d and %d goes on at %d, %v", r.name, r.d, r.a, x.c.PC(), got)
		}
	}
}

func TestBranchesOfManyWords(t *testing.T) {
	for _, name := range []string{"beq", "bne", "blt"} {
		for _, d := range edges {
			for _, a := range edges {
				for _, n := range []int{0, 2, 3, 4, 65535} {
					checkOne(t, 2, []int32{d, a}, ins(name, 1, 2, n))
				}
			}
		}
	}
}

// A branch that is taken costs 3 also if it goes on just where it would go on else.
func TestABranchToTheNextPlace(t *testing.T) {
	for name, cost := range map[string]int{"beq": 3, "bne": 1, "blt": 1} {
		x := made(t, nil, ins(name, 4, 4, 1), ins("halt"))
		x.step(t)
		if got := x.c.Marks()[0]; got != (api.Mark{Pc: 0, Addr: -1, Cost: cost}) || x.c.PC() != 1 {
			t.Errorf("%s to the next place: %v, to %d", name, got, x.c.PC())
		}
	}
}

func TestJumps(t *testing.T) {
	for _, n := range []int{0, 1, 2, 3, 4, 255, 256, 16383, 16384, 32767, 32768, 65535} {
		x := checkOne(t, 1, []int32{9}, ins("jump", n))
		if got := x.c.Marks()[1]; got != (api.Mark{Pc: 1, Addr: -1, Cost: 3}) || x.c.PC() != n {
			t.Errorf("jump to %d: %v, to %d", n, got, x.c.PC())
		}
		for _, d := range []int{0, 1, 2, 31} {
			x = checkOne(t, 1, []int32{9}, ins("jal", d, n))
			if got := x.c.Marks()[1]; got != (api.Mark{Pc: 1, Addr: -1, Cost: 3}) || x.c.PC() != n || d != 0 && x.c.Reg(d) != 2 {
				t.Errorf("jal to %d: %v, to %d, %d", n, got, x.c.PC(), x.c.Reg(d))
			}
		}
	}
}

func TestJr(t *testing.T) {
	for _, a := range edges {
		x := checkOne(t, 1, []int32{a}, ins("jr", 1))
		if got := x.c.Marks()[1]; got != (api.Mark{Pc: 1, Addr: -1, Cost: 3}) || x.c.PC() != int(a) {
			t.Errorf("jr to %d: %v, to %d", a, got, x.c.PC())
		}
	}
	x := checkOne(t, 1, []int32{9}, ins("jr", 0))
	if x.c.PC() != 0 {
		t.Errorf("jr of register 0 goes on at %d", x.c.PC())
	}
}

// A call, from the last place of the greatest code, that comes back behind it: nothing is there.
func TestJalFromTheLastPlace(t *testing.T) {
	l := nops(maxCode)
	l[0], l[7], l[maxCode-1] = ins("jump", maxCode-1), ins("jr", 31), ins("jal", 31, 7)
	x := made(t, nil, l...)
	if n := x.run(t, 99); n != 4 || x.c.Reg(31) != maxCode || x.c.PC() != maxCode {
		t.Errorf("%d steps, to %d, %d", n, x.c.PC(), x.c.Reg(31))
	}
	x.checkStopped(t, trapFetch)
}

func TestNopAndHalt(t *testing.T) {
	x := filled(t, 31, some(31), ins("nop"), ins("nop"), ins("halt"), ins("halt"))
	x.step(t)
	if got := x.c.Marks()[31]; got != (api.Mark{Pc: 31, Addr: -1, Cost: 1}) || x.c.PC() != 32 || x.c.State() != running {
		t.Errorf("nop: %v, to %d, state %d", got, x.c.PC(), x.c.State())
	}
	x.step(t)
	x.step(t)
	if got := x.c.Marks()[33]; got != (api.Mark{Pc: 33, Addr: -1, Cost: 1}) || x.c.PC() != 33 || x.c.State() != halted {
		t.Errorf("halt: %v, to %d, state %d", got, x.c.PC(), x.c.State())
	}
	x.checkStopped(t, halted)
}

// Each operation once, on registers without a pattern, with what its shape has at the least and at the greatest.
func TestEachOperationAtItsEnds(t *testing.T) {
	data := some(31)
	for op := 1; op <= 43; op++ {
		for _, fields := range [][4]int{chart.Least(op), chart.Greatest(op)} {
			x := filled(t, 31, data, chart.Ins(op, fields))
			x.step(t)
			x.step(t)
		}
	}
}

// Traps.

// checkTrap holds that a step comes to a trap, behind which all stays.
func checkTrap(t *testing.T, x pair, state int) {
	t.Helper()
	before := x.p.clone()
	if !x.step(t) {
		t.Fatal("the step that traps is none")
	}
	before.state = state
	pair{x.c, before}.check(t)
	x.checkStopped(t, state)
	for addr := range before.ram {
		x.checkLoad(t, addr)
	}
}

func TestTrapFetch(t *testing.T) {
	checkTrap(t, made(t, []int32{1}), trapFetch)
	checkTrap(t, filled(t, 3, some(3)), trapFetch)
	for _, i := range []api.Ins{ins("nop"), ins("jump", 4), ins("jump", 16384), ins("jump", 65535), ins("jal", 5, 4), ins("beq", 0, 0, 4), ins("bne", 1, 0, 65535), ins("jr", 1), ins("jr", 2), ins("jr", 3)} {
		x := filled(t, 3, []int32{-1, wordMax, wordMin}, i)
		x.step(t)
		checkTrap(t, x, trapFetch)
	}
	for _, to := range []int32{4, 5, 65536, 65536 + 1, 1 << 20, 1 << 30, -1, -2, -3, -4, -65536, -65535, wordMin, wordMin + 1, wordMax} {
		x := filled(t, 1, []int32{to}, ins("jr", 1), ins("halt"), ins("halt"))
		x.step(t)
		checkTrap(t, x, trapFetch)
	}
}

// Words that are none stand where they are never reached, too.
func TestTrapForm(t *testing.T) {
	var none []uint32
	for _, op := range []uint32{0, 44, 45, 50, 62, 63} {
		none = append(none, op<<26, op<<26+1, op<<26+1<<26-1)
	}
	for op := uint32(1); op <= 43; op++ {
		all := uint32(0)
		for k, letter := range []byte(chart.Shape(int(op))) {
			switch {
			case letter == 's' || letter == 'u':
				all |= 65535
			case letter != '-':
				all |= 31 << (21 - 5*k)
			}
		}
		for n := range 26 {
			if bit := uint32(1) << n; all&bit == 0 {
				none = append(none, op<<26+bit, op<<26+bit+all)
			}
		}
	}
	for _, w := range none {
		l := append(chart.Words([]api.Ins{ins("lw", 1, 0, 1), ins("sw", 1, 0, 0)}), w)
		c, e := core.New(l, []int32{5, 6})
		if e != api.OK {
			t.Fatalf("New of %#x: %v", w, e)
		}
		x := pair{c, &plain{code: []api.Ins{ins("lw", 1, 0, 1), ins("sw", 1, 0, 0), {}}, ram: []int32{5, 6}}}
		x.run(t, 2)
		checkTrap(t, x, trapForm)
	}
	x := made(t, nil, ins("jump", 2), api.Ins{}, ins("halt"), api.Ins{})
	x.run(t, 9)
	x.checkStopped(t, halted)
}

func TestTrapAddr(t *testing.T) {
	for _, length := range lengths {
		for _, r := range []struct {
			a int32
			n int
		}{{0, length}, {0, length + 1}, {0, 65535}, {int32(length), 0}, {int32(length) - 1, 1}, {-1, 0}, {-2, 1}, {wordMin, 0}, {wordMin, 65535}, {wordMin, 1}, {wordMax, 0}, {wordMax, 1}, {wordMax, 65535}, {-65536, 65535}, {1 << 16, 0}, {1 << 30, 1}, {wordMin + 65536, 1}} {
			data := some(length)
			data[0] = r.a
			for _, d := range []int{0, 1, 2, 3} {
				for _, name := range []string{"lw", "sw"} {
					checkTrap(t, filled(t, 2, data, ins(name, d, 1, r.n), ins("halt")), trapAddr)
				}
			}
		}
	}
	for _, i := range []api.Ins{ins("lw", 1, 0, 0), ins("sw", 1, 0, 0), ins("lw", 0, 0, 0), ins("sw", 0, 0, 0), ins("lw", 0, 0, 65535)} {
		checkTrap(t, made(t, nil, i), trapAddr)
	}
}

func TestTrapDivide(t *testing.T) {
	for _, name := range []string{"div", "rem"} {
		for _, a := range edges {
			for _, r := range [][3]int{{3, 1, 2}, {1, 1, 2}, {2, 1, 2}, {0, 1, 2}, {3, 1, 0}, {3, 0, 0}, {0, 0, 0}, {3, 2, 2}, {3, 1, 31}} {
				checkTrap(t, filled(t, 2, []int32{a, 0}, ins(name, r[0], r[1], r[2]), ins("halt")), trapDivide)
			}
		}
	}
}

// What a trap stands at may be mended by a word that is poked, behind Begin.
func TestATrapThatIsGoneBehindBegin(t *testing.T) {
	x := made(t, []int32{7, 0}, ins("lw", 1, 0, 0), ins("lw", 2, 0, 1), ins("div", 3, 1, 2), ins("halt"))
	x.run(t, 9)
	x.checkStopped(t, trapDivide)
	x.poke(t, 1, 2)
	x.checkStopped(t, trapDivide)
	x.begin(t)
	x.run(t, 9)
	x.checkStopped(t, halted)
	if got := x.c.Reg(3); got != 3 {
		t.Errorf("7 by 2 is %d", got)
	}
}

// P16.4: on and on

// anyIns is some instruction: of few registers, so that they meet, with places within the code and addresses within memory, mostly.
func anyIns(s *chart.Chance, places, length int) api.Ins {
	op := 1 + s.Below(43)
	if s.Below(3) == 0 {
		op = 31 + s.Below(10)
	}
	if name := chart.Name(op); name == "halt" && s.Below(4) > 0 {
		op = 31
	}
	i := api.Ins{Op: op}
	shape := chart.Shape(op)
	if shape[0] == 'd' {
		i.D = s.Below(9)
	}
	if shape[1] == 'a' {
		i.A = s.Below(9)
	}
	if shape[2] == 'b' {
		i.B = s.Below(9)
	}
	switch {
	case shape[3] == 's':
		i.N = s.Below(9) - 4
	case shape[3] == 'u' && (op == api.OpLw || op == api.OpSw):
		i.A, i.N = i.A*s.Below(2), s.Below(length+1)
	case shape[3] == 'u':
		i.N = s.Below(places + 1)
	}
	return i
}

// anyProgram is some program: memory has edges and small numbers, registers are loaded first, and some word may be no instruction.
func anyProgram(s *chart.Chance) ([]api.Ins, []int32) {
	length := 12 + s.Below(20)
	if s.Below(4) == 0 {
		length = 1020 + s.Below(40)
	}
	data := make([]int32, length)
	for addr := range data {
		data[addr] = int32(s.Below(30))
		if s.Below(3) == 0 {
			data[addr] = edges[s.Below(len(edges))]
		}
	}
	places := 12 + s.Below(30)
	var l []api.Ins
	for r := 1; r < 9; r++ {
		l = append(l, ins("lw", r, 0, s.Below(length)))
	}
	for len(l) < places {
		i := anyIns(s, places, length)
		if s.Below(60) == 0 {
			i = api.Ins{}
		}
		l = append(l, i)
	}
	return l, data
}

func TestManyProgramsStepByStep(t *testing.T) {
	s, times, done := chart.Chance(1), map[int]int{}, map[int]int{}
	for range 3000 {
		l, data := anyProgram(&s)
		x := made(t, data, l...)
		for range 60 {
			if !x.step(t) {
				break
			}
		}
		times[x.c.State()]++
		for _, m := range x.c.Marks() {
			done[l[m.Pc].Op]++
		}
	}
	for state := range 6 {
		if times[state] < 50 {
			t.Errorf("state %d was come to %d times", state, times[state])
		}
	}
	for op := 1; op <= 43; op++ {
		if done[op] < 40 {
			t.Errorf("%s was done %d times", chart.Name(op), done[op])
		}
	}
}

func TestARunOfSomeStepsAndOneOfOthers(t *testing.T) {
	s := chart.Chance(2)
	for range 300 {
		l, data := anyProgram(&s)
		whole := made(t, data, l...)
		all := whole.run(t, 40)
		for first := 0; first <= all; first++ {
			x := made(t, data, l...)
			n := x.c.Run(first)
			n += x.c.Run(40 - first)
			if n != all {
				t.Fatalf("%d steps, and others: %d, want %d", first, n, all)
			}
			pair{x.c, whole.p}.check(t)
		}
		x := made(t, data, l...)
		for n, fuel := 0, 1; n < 40; n, fuel = n+fuel, fuel+1 {
			x.c.Run(min(fuel, 40-n))
			x.c.Run(0)
			x.c.Run(-fuel)
		}
		pair{x.c, whole.p}.check(t)
	}
}

func TestRunsGoOnBehindTheMostFuel(t *testing.T) {
	x := made(t, nil, ins("addi", 1, 1, 1), ins("addi", 2, 2, 3), ins("jump", 0))
	for range 2 {
		if n := x.c.Run(maxFuel + 5); n != maxFuel {
			t.Fatalf("Run = %d", n)
		}
	}
	x.c.Run(1)
	n := 2*maxFuel + 1
	if int(x.c.Reg(1)) != (n+2)/3 || int(x.c.Reg(2)) != 3*((n+1)/3) || x.c.PC() != n%3 || len(x.c.Marks()) != n || x.c.Cycles() != n+2*(n/3) {
		t.Errorf("behind %d steps: %d, %d, at %d, %d marks, cost %d", n, x.c.Reg(1), x.c.Reg(2), x.c.PC(), len(x.c.Marks()), x.c.Cycles())
	}
}

func TestWhatARunCostsIsWhatItsMarksCost(t *testing.T) {
	s := chart.Chance(3)
	for range 500 {
		l, data := anyProgram(&s)
		x := made(t, data, l...)
		for range 3 {
			x.run(t, 1+s.Below(20))
			sum := 0
			for _, m := range x.c.Marks() {
				sum += m.Cost
			}
			if got := x.c.Cycles(); got != sum {
				t.Fatalf("Cycles() = %d, marks cost %d", got, sum)
			}
			if s.Below(5) == 0 {
				x.begin(t)
			}
		}
	}
}

func TestMemoryChangesJustWhereAMarkOfSwStands(t *testing.T) {
	s := chart.Chance(4)
	stored := 0
	for range 500 {
		l, data := anyProgram(&s)
		c := made(t, data, l...).c
		want := slices.Clone(data)
		for range 40 {
			before := len(c.Marks())
			if !c.Step() {
				break
			}
			for _, m := range c.Marks()[before:] {
				if l[m.Pc].Op == api.OpSw {
					want[m.Addr] = c.Reg(l[m.Pc].D)
					stored++
				}
			}
			if got := c.Ram(); !slices.Equal(got, want) {
				t.Fatalf("memory is %v, want %v", got, want)
			}
		}
	}
	if stored < 200 {
		t.Errorf("%d words were stored", stored)
	}
}
