package flow_test

import (
	"slices"
	"testing"

	"astrolabe/api"
	"astrolabe/chart"
	"astrolabe/core"
	"astrolabe/flow"
)

// Two runs of one image, side by side, whose open words are the same ones.

// pair are two cores of one image's code.
type pair struct {
	a, b   *core.Core
	m      api.Image
	secret []uint32
}

// paired are two cores that began, the second with other words of memory.
func paired(t *testing.T, m api.Image, other []int32) pair {
	t.Helper()
	a, e := core.New(m.Code, m.Data)
	b, f := core.New(m.Code, other)
	if e != api.OK || f != api.OK {
		t.Fatal(e, f)
	}
	return pair{a, b, m, flow.Secrets(m)}
}

// unlike tells what of two runs is unlike that P24.3 says is alike; nothing, if nothing is.
func (p pair) unlike() string {
	switch {
	case p.a.State() != p.b.State():
		return "state"
	case p.a.PC() != p.b.PC():
		return "place"
	case !slices.Equal(p.a.Marks(), p.b.Marks()):
		return "marks"
	}
	x, y := p.a.Ram(), p.b.Ram()
	for addr, secret := range p.m.Secret {
		if !secret && x[addr] != y[addr] {
			return "an open word"
		}
	}
	return ""
}

// others counts registers that are not the same in both runs, and holds that each is secret at the place to which they are come.
func (p pair) others(t *testing.T) int {
	t.Helper()
	n := 0
	for r := range 32 {
		if p.a.Reg(r) == p.b.Reg(r) {
			continue
		}
		n++
		if pc := p.a.PC(); pc >= 0 && pc < len(p.secret) && p.secret[pc]>>r%2 == 0 {
			t.Fatalf("of %#x, %v register %d is open at %d, and %d, or %d", p.m.Code, p.m.Secret, r, pc, p.a.Reg(r), p.b.Reg(r))
		}
	}
	return n
}

// word is one of memory without a pattern: mostly a small one.
func word(c *chart.Chance) int32 {
	if c.Below(4) == 0 {
		return int32(c.Below(1<<24))<<8 + int32(c.Below(256))
	}
	return int32(c.Below(9) - 3)
}

// otherSecrets are words of memory of which the secret ones are others.
func otherSecrets(c *chart.Chance, m api.Image) []int32 {
	l := slices.Clone(m.Data)
	for addr, secret := range m.Secret {
		if secret {
			l[addr] = word(c)
		}
	}
	return l
}

// mended is an image that is taken: what is not allowed gives way to something that is.
func mended(t *testing.T, c *chart.Chance, p plain) api.Image {
	t.Helper()
	for range 2 * len(p.code) {
		m := p.image()
		f := flow.Check(m)
		if f.Why == api.OK {
			return m
		}
		p.code[f.Pc] = []api.Ins{chart.Named("nop"), chart.Named("lui", 1+c.Below(9), c.Below(2)), chart.Named("addi", 1+c.Below(9), 0, c.Below(5)-1)}[c.Below(3)]
	}
	t.Fatalf("%v can't be mended", p.code)
	return api.Image{}
}

// P24.3

func TestTwoRunsOfWhatIsTaken(t *testing.T) {
	c := chart.Chance(21)
	states, steps, apart, stored, longest := map[int]int{}, 0, 0, 0, 0
	for k := range 6000 {
		p := some(&c, 2+c.Below(10+k%3*20))
		p.in = nil
		m := mended(t, &c, p)
		for addr := range m.Data {
			m.Data[addr] = word(&c)
		}
		x := paired(t, m, otherSecrets(&c, m))
		for n := 1; n < 150 && x.a.Step() && x.b.Step(); n++ {
			if what := x.unlike(); what != "" {
				t.Fatalf("of %#x, %v, behind step %d of words %v %s is unlike", m.Code, m.Secret, n, m.Data, what)
			}
			if steps++; x.others(t) > 0 {
				apart++
			}
			longest = max(longest, n)
		}
		states[x.a.State()]++
		for addr, secret := range m.Secret {
			if !secret && x.a.Ram()[addr] != m.Data[addr] {
				stored++
			}
		}
	}
	for state := range 6 {
		if states[state] < 20 {
			t.Errorf("%d runs are come to state %d", states[state], state)
		}
	}
	if steps < 50000 || apart < steps/8 || stored < 300 || longest < 149 {
		t.Errorf("%d steps, behind %d of which registers are others; %d open words stored", steps, apart, stored)
	}
}

// Each thing that is not allowed leaks, with words that are told here.
func TestTwoRunsOfWhatIsNotAllowed(t *testing.T) {
	for _, x := range []struct {
		memory, text string
		at           int
		first, other int32
		unlike       string
	}{
		{mixed, "lw r1 r0 0\naddi r2 r0 1\ndiv r3 r1 r2", 2, 1, 2, "marks"},
		{mixed, "lw r1 r0 0\naddi r2 r0 1\nrem r3 r1 r2", 2, 3, 4, "marks"},
		{mixed, "lw r1 r0 0\ndiv r3 r0 r1", 1, 0, 1, "state"},
		{mixed, "lw r1 r0 0\nrem r3 r0 r1", 1, 1, 0, "state"},
		{mixed, "lw r1 r0 0\nlw r2 r1 0", 1, 0, 1, "marks"},
		{mixed, "lw r1 r0 0\nlw r2 r1 0", 1, 1, 2, "state"},
		{mixed, "lw r1 r0 0\nsw r0 r1 0", 1, 0, 1, "marks"},
		{hidden, "lw r1 r0 0\nsw r0 r1 0", 1, 1, 0, "marks"},
		{mixed, "lw r1 r0 0\nsw r1 r0 1", 1, 5, 7, "an open word"},
		{mixed, "lw r1 r0 0\naddi r2 r0 1\nsw r1 r2 0", 2, 5, 7, "an open word"},
		{mixed, "lw r1 r0 0\nbeq r1 r0 3\nnop", 1, 0, 1, "place"},
		{mixed, "lw r1 r0 0\nbne r1 r0 3\nnop", 1, 0, 1, "place"},
		{mixed, "lw r1 r0 0\nblt r1 r0 3\nnop", 1, 0, -1, "place"},
		{mixed, "lw r1 r0 0\nbeq r0 r1 3\nnop", 1, 0, 1, "place"},
		{mixed, "lw r1 r0 0\nbne r0 r1 3\nnop", 1, 0, 1, "place"},
		{mixed, "lw r1 r0 0\nblt r0 r1 3\nnop", 1, 0, 1, "place"},
		{mixed, "lw r1 r0 0\nbeq r1 r0 2\nhalt", 1, 0, 1, "marks"},
		{mixed, "lw r1 r0 0\njr r1", 1, 5, 6, "place"},
	} {
		m := parsed(t, x.memory+x.text)
		if got := flow.Check(m); got != (api.Flaw{Why: api.ErrFlow, Pc: x.at}) {
			t.Errorf("Check of %q = %v", x.text, got)
		}
		m.Data[0] = x.first
		other := slices.Clone(m.Data)
		other[0] = x.other
		p := paired(t, m, other)
		p.a.Run(x.at + 1)
		p.b.Run(x.at + 1)
		if got := p.unlike(); got != x.unlike {
			t.Errorf("of %q %q is unlike, want %q", x.text, got, x.unlike)
		}
	}
}

// Runs of the same secret words, of what is not taken, too, come to the same.
func TestTwoRunsOfTheSameWords(t *testing.T) {
	c := chart.Chance(22)
	for range 300 {
		m := some(&c, 2+c.Below(30)).image()
		p := paired(t, m, m.Data)
		if n := p.a.Run(100); p.b.Run(100) != n || p.unlike() != "" || p.others(t) != 0 {
			t.Fatalf("of %#x two runs are unlike", m.Code)
		}
	}
}

// P24.4

func TestAWordMoreThatIsSecret(t *testing.T) {
	c := chart.Chance(23)
	more, refused := 0, 0
	for k := range 10000 {
		m := some(&c, 1+c.Below(10+k%3*15)).image()
		m.In = nil
		least, flaw := flow.Secrets(m), flow.Check(m)
		for addr, secret := range m.Secret {
			if secret {
				continue
			}
			m.Secret[addr] = true
			most := flow.Secrets(m)
			if !contains(t, m, addr, most, least) {
				more++
			}
			if flaw.Why == api.OK && flow.Check(m).Why != api.OK {
				refused++
			}
			m.Secret[addr] = false
		}
	}
	if more < 3000 || refused < 300 {
		t.Errorf("of %d images more is secret, %d are not taken any more", more, refused)
	}
}

// contains holds that no place has less that is secret when a word more is, and tells whether each has just the same.
func contains(t *testing.T, m api.Image, addr int, most, least []uint32) bool {
	t.Helper()
	if len(most) != len(m.Code) || len(least) != len(m.Code) {
		t.Fatalf("%d places, and %d, want %d", len(most), len(least), len(m.Code))
	}
	for at, x := range least {
		if x&^most[at] != 0 {
			t.Fatalf("of %#x, with word %d secret, %#x is secret at %d, and %#x without", m.Code, addr, most[at], at, x)
		}
	}
	return slices.Equal(most, least)
}

func TestWordsMoreTillAllAreSecret(t *testing.T) {
	c := chart.Chance(24)
	for range 500 {
		m := some(&c, 1+c.Below(40)).image()
		m.In, m.Secret = nil, make([]bool, len(m.Secret))
		last := flow.Secrets(m)
		if slices.ContainsFunc(last, func(x uint32) bool { return x != 0 }) {
			t.Fatalf("of %#x, without a secret word, are secret %#x", m.Code, last)
		}
		for left := len(m.Secret); left > 0; left-- {
			addr := c.Below(len(m.Secret))
			for m.Secret[addr] {
				addr = (addr + 1) % len(m.Secret)
			}
			m.Secret[addr] = true
			next := flow.Secrets(m)
			contains(t, m, addr, next, last)
			last = next
		}
	}
}
