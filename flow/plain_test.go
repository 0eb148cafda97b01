package flow_test

import (
	"slices"
	"testing"

	"astrolabe/api"
	"astrolabe/chart"
	"astrolabe/flow"
)

// The reckoning of the tests is the chapter's, told as facts: that a place is reached, or that a register is secret there. What goes on behind an instruction follows from one fact ahead of it each time, so that all are found by going from fact to fact, without levels that change.

// fact is that a register is secret at a place, or that the place is reached.
type fact struct{ at, reg int }

// reached stands in a fact for no register.
const reached = -1

// plain is an image: instructions, of which one without an operation is none; of each word of memory whether it is secret; and where what is given goes.
type plain struct {
	code   []api.Ins
	secret []bool
	in     []int
}

// image is the one that it is; what memory has has no pattern.
func (p plain) image() api.Image {
	m := api.Image{Code: chart.Words(p.code), Secret: slices.Clone(p.secret), In: slices.Clone(p.in)}
	c := chart.Chance(len(p.code))
	for range p.secret {
		m.Data = append(m.Data, int32(c.Below(9)-4))
	}
	return m
}

// may: is a word that lw or sw may ask secret, or open?
func (p plain) may(i api.Ins, secret bool) bool {
	for addr, s := range p.secret {
		if s == secret && (i.A != 0 || i.N == addr) {
			return true
		}
	}
	return false
}

// onward are the places to which goes what goes on from one.
func (p plain) onward(at int) []int {
	i := p.code[at]
	switch name := chart.Name(i.Op); name {
	case "jr", "halt", "": // A word that is none has no name.
		return nil
	case "jump", "jal":
		return []int{i.N}
	case "beq", "bne", "blt":
		return []int{at + 1, i.N}
	case "lw", "sw":
		if i.A == 0 && !p.may(i, true) && !p.may(i, false) {
			return nil
		}
	}
	return []int{at + 1}
}

// behind are the registers of the facts behind an instruction that follow from one ahead of it; register 0 is not yet left out.
func (p plain) behind(f fact) []int {
	i := p.code[f.at]
	name, shape := chart.Name(i.Op), chart.Shape(i.Op)
	if f.reg == reached {
		if name == "lw" && p.may(i, true) {
			return []int{reached, i.D}
		}
		return []int{reached}
	}
	var l []int
	puts := shape[0] == 'd' && !slices.Contains([]string{"sw", "beq", "bne", "blt"}, name)
	if !puts || f.reg != i.D {
		l = append(l, f.reg)
	}
	reads := shape[1] == 'a' && f.reg == i.A || shape[2] == 'b' && f.reg == i.B
	if puts && name != "lw" && reads {
		l = append(l, i.D)
	}
	return l
}

// facts are all.
func (p plain) facts() map[fact]bool {
	had := map[fact]bool{}
	var list []fact
	add := func(f fact) {
		if f.at < len(p.code) && f.reg != 0 && !had[f] {
			had[f] = true
			list = append(list, f)
		}
	}
	add(fact{0, reached})
	for k := 0; k < len(list); k++ {
		for _, to := range p.onward(list[k].at) {
			for _, r := range p.behind(list[k]) {
				add(fact{to, r})
			}
		}
	}
	return had
}

// wrong: is something not allowed at a place?
func (p plain) wrong(had map[fact]bool, at int) bool {
	i := p.code[at]
	is := func(r int) bool { return had[fact{at, r}] }
	switch chart.Name(i.Op) {
	case "jr":
		return is(reached)
	case "div", "rem":
		return is(i.A) || is(i.B)
	case "lw":
		return is(i.A)
	case "sw":
		return is(i.A) || is(i.D) && p.may(i, false)
	case "beq", "bne", "blt":
		return is(i.D) || is(i.A)
	}
	return false
}

// told is what the chapter tells of an image that may be.
type told struct {
	flaw    api.Flaw
	secrets []uint32
}

// tell reckons it.
func (p plain) tell() told {
	had := p.facts()
	x := told{secrets: make([]uint32, len(p.code))}
	for f := range had {
		if f.reg != reached {
			x.secrets[f.at] |= 1 << f.reg
		}
	}
	for at := len(p.code) - 1; at >= 0; at-- {
		if p.wrong(had, at) {
			x.flaw = api.Flaw{Why: api.ErrFlow, Pc: at}
		}
	}
	for _, a := range p.in {
		if !p.secret[a] {
			x.flaw = api.Flaw{Why: api.ErrFlow, Pc: -1}
		}
	}
	return x
}

// check holds both calls of an image that may be, and tells what they answered.
func check(t *testing.T, p plain) told {
	t.Helper()
	m, want := p.image(), p.tell()
	if got := flow.Check(m); got != want.flaw {
		t.Fatalf("of %v, %v, In %v Check = %v, want %v", p.code, p.secret, p.in, got, want.flaw)
	}
	if got := flow.Secrets(m); !slices.Equal(got, want.secrets) {
		t.Fatalf("of %v, %v Secrets = %#x, want %#x", p.code, p.secret, got, want.secrets)
	}
	return want
}

// checkRefused holds both calls of an image that may not be.
func checkRefused(t *testing.T, m api.Image, why api.Errno) {
	t.Helper()
	if got := flow.Check(m); got != (api.Flaw{Why: why, Pc: -1}) {
		t.Errorf("Check = %v, want %v at -1", got, why)
	}
	if got := flow.Secrets(m); len(got) != 0 {
		t.Errorf("of what may not be (%v) Secrets = %#x", why, got)
	}
}
