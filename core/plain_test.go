package core_test

import (
	"slices"

	"astrolabe/alu"
	"astrolabe/api"
	"astrolabe/chart"
)

// The reckoning of the tests is the chapter's, on instructions instead of words, by whole numbers of 64 bits. Of what reckons layer 7 tells the word, as the chapter says; what it costs is told here.

const (
	running     = 0
	halted      = 1
	trapFetch   = 2
	trapForm    = 3
	trapAddr    = 4
	trapDivide  = 5
	wordMin     = -1 << 31
	wordMax     = 1<<31 - 1
	maxCode     = 16384
	maxRam      = 2048
	bank        = 1024
	maxFuel     = 1048576
	registers   = 32
	allWords    = 1 << 32 // how many words there are
	noOperation = 0       // stands, in a plain core's code, for a word that is no instruction
)

// plain is a core as the chapter tells it.
type plain struct {
	code   []api.Ins
	ram    []int32
	regs   [registers]int64
	pc     int
	state  int
	cycles int
	marks  []api.Mark
}

// signed is the word that is x modulo 2^32.
func signed(x int64) int64 {
	x = (x%allWords + allWords) % allWords
	if x > wordMax {
		x -= allWords
	}
	return x
}

// length is how many bits the amount of a word has.
func length(x int64) int {
	n := 0
	for ; x != 0; x /= 2 {
		n++
	}
	return n
}

// leastCost is what an operation costs by layer 6.
func leastCost(name string) int {
	switch name {
	case "mul", "mulh", "mulq", "mulr", "jump", "jal", "jr":
		return 3
	case "div", "rem", "lw", "sw":
		return 2
	}
	return 1
}

// begin is Begin.
func (p *plain) begin() { *p = plain{code: p.code, ram: p.ram} }

// step is Step.
func (p *plain) step() bool {
	if p.state != running {
		return false
	}
	if p.pc < 0 || p.pc >= len(p.code) {
		p.state = trapFetch
		return true
	}
	i := p.code[p.pc]
	if i.Op == noOperation {
		p.state = trapForm
		return true
	}
	p.do(i, chart.Name(i.Op))
	return true
}

// run is Run.
func (p *plain) run(fuel int) int {
	n := 0
	for n < fuel && n < maxFuel && p.step() {
		n++
	}
	return n
}

// do does an instruction, each in a way of its own.
func (p *plain) do(i api.Ins, name string) {
	a, d, n, cost := p.regs[i.A], p.regs[i.D], int64(i.N), leastCost(name)
	switch name {
	case "addi":
		p.put(i.D, a+n)
		p.on(p.pc+1, -1, cost)
	case "ori":
		p.put(i.D, or(a, n))
		p.on(p.pc+1, -1, cost)
	case "lui":
		p.put(i.D, n*65536)
		p.on(p.pc+1, -1, cost)
	case "lw", "sw":
		p.ask(i, name, signed(a+n))
	case "beq":
		p.branch(i.N, d == a)
	case "bne":
		p.branch(i.N, d != a)
	case "blt":
		p.branch(i.N, d < a)
	case "jump":
		p.on(i.N, -1, cost)
	case "jal":
		p.put(i.D, int64(p.pc)+1)
		p.on(i.N, -1, cost)
	case "jr":
		p.on(int(a), -1, cost)
	case "nop":
		p.on(p.pc+1, -1, cost)
	case "halt":
		p.on(p.pc, -1, cost)
		p.state = halted
	case "div", "rem":
		cost += length(a)
		fallthrough
	default:
		p.reckon(i, cost)
	}
}

// or is that of each bit of a word and of a number from 0 to 65535.
func or(a, n int64) int64 {
	sum, x := int64(0), (a+allWords)%allWords
	for p := int64(1); p < allWords; p *= 2 {
		if x%2 == 1 || n%2 == 1 {
			sum += p
		}
		x, n = x/2, n/2
	}
	return sum
}

// ask does lw and sw.
func (p *plain) ask(i api.Ins, name string, addr int64) {
	if addr < 0 || addr >= int64(len(p.ram)) {
		p.state = trapAddr
		return
	}
	if name == "lw" {
		p.put(i.D, int64(p.ram[addr]))
	} else {
		p.ram[addr] = int32(p.regs[i.D])
	}
	if addr >= bank {
		p.on(p.pc+1, int(addr), 3)
	} else {
		p.on(p.pc+1, int(addr), 2)
	}
}

// branch does a branch, which is taken if something holds.
func (p *plain) branch(to int, holds bool) {
	if holds {
		p.on(to, -1, 3)
	} else {
		p.on(p.pc+1, -1, 1)
	}
}

// reckon does what reckons.
func (p *plain) reckon(i api.Ins, cost int) {
	x, ok := alu.Do(i.Op, int32(p.regs[i.A]), int32(p.regs[i.B]))
	if !ok {
		p.state = trapDivide
		return
	}
	p.put(i.D, int64(x))
	p.on(p.pc+1, -1, cost)
}

// put puts a number, modulo 2^32, into a register.
func (p *plain) put(d int, x int64) {
	if d != 0 {
		p.regs[d] = signed(x)
	}
}

// on leaves a mark, and goes on.
func (p *plain) on(to, addr, cost int) {
	p.marks = append(p.marks, api.Mark{Pc: p.pc, Addr: addr, Cost: cost})
	p.cycles += cost
	p.pc = to
}

// clone is another plain core that is just like p.
func (p *plain) clone() *plain {
	q := *p
	q.ram, q.marks = slices.Clone(p.ram), slices.Clone(p.marks)
	return &q
}
