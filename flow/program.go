package flow

import (
	"slices"

	"astrolabe/api"
	"astrolabe/code"
	"astrolabe/ops"
)

// noOp stands in an instruction for a word that is none.
const noOp = 0

// program is an image's code, instruction by instruction, and of each word of its memory whether it is secret.
type program struct {
	code   []api.Ins
	secret []bool
	all    levels
}

// levels are those that some words have: is one of them secret, is one open?
type levels struct{ secret, open bool }

// read is the program of an image that may be.
func read(m api.Image) program {
	p := program{code: make([]api.Ins, len(m.Code)), secret: m.Secret, all: levelsOf(m.Secret)}
	for at, w := range m.Code {
		p.code[at], _ = code.Decode(w)
	}
	return p
}

// levelsOf are those of words of which each is secret, or is not.
func levelsOf(l []bool) levels {
	return levels{secret: slices.Contains(l, true), open: slices.Contains(l, false)}
}

// lacks: does lw or sw ask a word that memory has not, whatever registers are?
func (p program) lacks(i api.Ins) bool { return i.A == 0 && i.N >= len(p.secret) }

// asked are the levels of the words that lw or sw may ask.
func (p program) asked(i api.Ins) levels {
	switch {
	case i.A != 0:
		return p.all
	case p.lacks(i):
		return levels{}
	}
	return levelsOf(p.secret[i.N : i.N+1])
}

// onward are the places to which it goes on from one, and such as the code has not.
func (p program) onward(at int) []int {
	i := p.code[at]
	switch i.Op {
	case noOp, api.OpJr, api.OpHalt:
		return nil
	case api.OpJump, api.OpJal:
		return []int{i.N}
	case api.OpBeq, api.OpBne, api.OpBlt:
		return []int{i.N, at + 1}
	case api.OpLw, api.OpSw:
		if p.lacks(i) {
			return nil
		}
	}
	return []int{at + 1}
}

// behind is the state behind an instruction.
func (p program) behind(i api.Ins, s state) state {
	switch {
	case ops.Reckons(i.Op), i.Op == api.OpAddi, i.Op == api.OpOri:
		// An instruction without B has 0 there, which is open.
		return s.put(i.D, s.has(i.A) || s.has(i.B))
	case i.Op == api.OpLw:
		return s.put(i.D, p.asked(i).secret)
	case i.Op == api.OpLui, i.Op == api.OpJal:
		return s.put(i.D, false)
	}
	return s
}

// allows: may an instruction stand at a reached place?
func (p program) allows(i api.Ins, s state) bool {
	switch i.Op {
	case api.OpDiv, api.OpRem:
		return !s.has(i.A) && !s.has(i.B)
	case api.OpLw:
		return !s.has(i.A)
	case api.OpSw:
		return !s.has(i.A) && !(s.has(i.D) && p.asked(i).open)
	case api.OpBeq, api.OpBne, api.OpBlt:
		return !s.has(i.D) && !s.has(i.A)
	}
	return i.Op != api.OpJr
}
