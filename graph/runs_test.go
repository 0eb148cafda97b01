package graph_test

import (
	"slices"
	"testing"

	"astrolabe/api"
	"astrolabe/chart"
	"astrolabe/core"
	"astrolabe/graph"
)

// run is a core of code, and which places it came to.
type run struct {
	c     *core.Core
	w     []uint32
	times []int
}

// runOf is a run of code that began, on some words of memory.
func runOf(t *testing.T, w []uint32, data []int32) *run {
	t.Helper()
	c, e := core.New(w, data)
	if e != api.OK {
		t.Fatal(e)
	}
	r := &run{c: c, w: w, times: make([]int, len(w))}
	r.come()
	return r
}

// come counts the place at which the core stands, if its code has it.
func (r *run) come() {
	if r.within() {
		r.times[r.c.PC()]++
	}
}

// within: does the core stand at a place of its code?
func (r *run) within() bool { return r.c.PC() >= 0 && r.c.PC() < len(r.w) }

// step goes on by a step, and tells whether it did.
func (r *run) step() bool {
	if !r.c.Step() || r.c.State() != api.Running {
		return false
	}
	r.come()
	return true
}

// checkCome holds, as the core comes to a place for the first time, that it is reached, and that the run came to all that stand ahead of it.
func (r *run) checkCome(t *testing.T) {
	t.Helper()
	pc := r.c.PC()
	if !r.within() || r.times[pc] > 1 {
		return
	}
	if !graph.Reached(r.w)[pc] {
		t.Fatalf("a run came to %d, which is not reached", pc)
	}
	for a := range r.w {
		if r.times[a] == 0 && graph.Ahead(r.w, a, pc) {
			t.Fatalf("a run came to %d, but not to %d ahead", pc, a)
		}
	}
}

// runnable is code whose registers are loaded, and counted up or down, so that its branches go either way; if it does not go back, all that it may go on to stands behind.
func runnable(c *chart.Chance, n int, back bool) (plain, []int32) {
	data := make([]int32, 8)
	for k := range data {
		data[k] = int32(c.Below(7) - 2)
	}
	l := some(c, n)
	for p := range l {
		i := &l[p]
		switch i.Op {
		case api.OpNop:
			*i = []api.Ins{{Op: api.OpLw, D: 1 + c.Below(3), N: c.Below(8)}, {Op: api.OpAddi, D: 1, A: 1, N: -1}, {Op: api.OpAdd, D: 2, A: 1, B: 3}, nop()}[c.Below(4)]
		case api.OpBeq, api.OpBne, api.OpBlt:
			i.D, i.A = c.Below(4), c.Below(4)
		case api.OpJr:
			i.A = 1 + c.Below(3)
		}
		if !back && i.Op >= api.OpBeq && i.Op <= api.OpJal {
			i.N = max(i.N, p+1)
		}
	}
	return l, data
}

// orderly is code that goes on to places of greater ranks alone, which are without a pattern, so that it goes back, too, but to no place again.
func orderly(c *chart.Chance, n int) plain {
	ranks := make([]int, n)
	for p := range ranks {
		ranks[p] = p
	}
	for p := n - 1; p > 1; p-- {
		q := 1 + c.Below(p)
		ranks[p], ranks[q] = ranks[q], ranks[p]
	}
	l := make(plain, n)
	for p := range l {
		to := c.Below(n)
		for k := 0; k < n && ranks[to] <= ranks[p]; k++ {
			to = (to + 1) % n
		}
		switch on := p+1 < n && ranks[p+1] > ranks[p]; {
		case ranks[to] <= ranks[p]:
			l[p] = halt()
		case on && c.Below(3) == 0:
			l[p] = api.Ins{Op: api.OpAddi, D: 1 + c.Below(3), A: c.Below(4), N: c.Below(5) - 2}
		case on:
			l[p] = api.Ins{Op: api.OpBeq + c.Below(3), D: c.Below(4), A: c.Below(4), N: to}
		default:
			l[p] = jump(to)
		}
	}
	return l
}

// hasJr: is there a jr?
func (l plain) hasJr() bool {
	return slices.ContainsFunc(l, func(i api.Ins) bool { return i.Op == api.OpJr })
}

// P18.4

func TestEachStepOfARun(t *testing.T) {
	c := chart.Chance(11)
	steps, parted, beyond, jumped, astray := 0, 0, 0, 0, 0
	for k := range 2000 {
		l, data := runnable(&c, 2+c.Below(30), k%3 > 0)
		r := runOf(t, l.words(), data)
		r.checkCome(t)
		free := true
		for range 300 {
			from := r.c.PC()
			if !r.step() {
				break
			}
			steps++
			next := graph.Next(r.w, from)
			if len(next) == 2 {
				parted++
			}
			if l[from].Op == api.OpJr {
				jumped++
				free = false
			} else if !r.within() {
				beyond++
			} else if !slices.Contains(next, r.c.PC()) {
				t.Fatalf("a step went on from %d to %d, which is none of %v", from, r.c.PC(), next)
			}
			if free {
				r.checkCome(t)
			} else if r.within() && !graph.Reached(r.w)[r.c.PC()] {
				astray++
			}
		}
	}
	if steps < 20000 || parted < 5000 || beyond < 200 || jumped < 50 || astray < 10 {
		t.Errorf("%d steps, %d from where it may go on to two places, %d out of the code, %d of jr, %d to where nothing else leads", steps, parted, beyond, jumped, astray)
	}
}

// P18.5

func TestCodeThatIsNotCyclicIsRunThroughOnce(t *testing.T) {
	c := chart.Chance(12)
	once, again, back := 0, 0, 0
	for k := range 6000 {
		l, data := runnable(&c, 2+c.Below(30), k%2 > 0)
		if k%3 == 0 {
			l = orderly(&c, 2+c.Below(40))
		}
		if l.hasJr() {
			continue
		}
		r := runOf(t, l.words(), data)
		cyclic := graph.Cyclic(r.w)
		for range 300 {
			from := r.c.PC()
			if !r.step() {
				break
			}
			if !cyclic && r.c.PC() < from {
				back++
			}
		}
		switch most := slices.Max(r.times); {
		case !cyclic && (most > 1 || r.c.State() == api.Running):
			t.Fatalf("of %v, which is not cyclic, a place was come to %d times", l, most)
		case k%3 == 0 && cyclic:
			t.Fatalf("%v is not cyclic", l)
		case !cyclic:
			once++
		case most > 1:
			again++
		}
	}
	if once < 2000 || again < 300 || back < 500 {
		t.Errorf("%d codes were run through once, with %d steps back; of %d a place was come to again", once, back, again)
	}
}
