package core

import (
	"astrolabe/alu"
	"astrolabe/api"
	"astrolabe/ram"
)

const (
	noAddr = -1 // the address of a mark whose step asks none
	taken  = 3  // what a branch costs that goes on at its number
	far    = 1  // what an address from api.Bank on costs besides
	half   = 16 // how many bits a word's lowest half has
)

// machine is what a core keeps. Memory is embedded: what it does, the machine does.
type machine struct {
	*ram.Ram
	code   []api.Ins
	regs   [api.Regs]int32
	pc     int
	state  int
	cycles int
	marks  []api.Mark
}

// outcome is what comes of an instruction but for registers and memory: where it goes on, which address it asks, what it costs, and the state behind it.
type outcome struct{ next, addr, cost, state int }

// step does the instruction at the place of pc. Of a trap just the state is told.
func (m *machine) step() {
	i, state := m.fetch()
	o := outcome{state: state}
	if state == api.Running {
		o = m.do(i)
	}
	m.state = o.state
	if o.state != api.Running && o.state != api.Halted {
		return
	}
	m.marks = append(m.marks, api.Mark{Pc: m.pc, Addr: o.addr, Cost: o.cost})
	m.cycles += o.cost
	m.pc = o.next
}

// fetch: the instruction at the place of pc, and Running; else why there is none.
func (m *machine) fetch() (api.Ins, int) {
	if m.pc < 0 || m.pc >= len(m.code) {
		return api.Ins{}, api.TrapFetch
	}
	i := m.code[m.pc]
	if i == (api.Ins{}) {
		return i, api.TrapForm
	}
	return i, api.Running
}

// do does an instruction on registers and memory, but changes nothing if it traps.
func (m *machine) do(i api.Ins) outcome {
	a, d := m.regs[i.A], m.regs[i.D]
	o := outcome{next: m.pc + 1, addr: noAddr, cost: alu.Cost(i.Op, a)}
	switch i.Op {
	case api.OpAddi:
		m.put(i.D, a+int32(i.N))
	case api.OpOri:
		m.put(i.D, a|int32(i.N))
	case api.OpLui:
		m.put(i.D, int32(i.N)<<half)
	case api.OpLw, api.OpSw:
		m.ask(i, &o)
	case api.OpBeq, api.OpBne, api.OpBlt:
		if branches(i.Op, d, a) {
			o.next, o.cost = i.N, taken
		}
	case api.OpJal:
		m.put(i.D, int32(o.next))
		fallthrough
	case api.OpJump:
		o.next = i.N
	case api.OpJr:
		o.next = int(a)
	case api.OpHalt:
		o.next, o.state = m.pc, api.Halted
	case api.OpNop:
	default:
		m.reckon(i, &o)
	}
	return o
}

// ask does lw or sw.
func (m *machine) ask(i api.Ins, o *outcome) {
	addr := m.regs[i.A] + int32(i.N)
	o.addr = int(addr)
	if o.addr >= api.Bank {
		o.cost += far
	}
	x, ok := m.Load(addr)
	switch {
	case !ok:
		o.state = api.TrapAddr
	case i.Op == api.OpSw:
		m.Store(addr, m.regs[i.D])
	default:
		m.put(i.D, x)
	}
}

// reckon does what reckons; of that just quotient and rest by 0 are nothing.
func (m *machine) reckon(i api.Ins, o *outcome) {
	x, ok := alu.Do(i.Op, m.regs[i.A], m.regs[i.B])
	if !ok {
		o.state = api.TrapDivide
		return
	}
	m.put(i.D, x)
}

// put puts a word into a register; into register 0 none.
func (m *machine) put(d int, x int32) {
	if d != 0 {
		m.regs[d] = x
	}
}

// branches: does a branch go on at its number?
func branches(op int, d, a int32) bool {
	switch op {
	case api.OpBeq:
		return d == a
	case api.OpBne:
		return d != a
	}
	return d < a
}
