package plan_test

import (
	"math"
	"slices"
	"testing"

	"astrolabe/api"
	"astrolabe/chart"
	"astrolabe/plan"
)

// The reckoning of the tests is the chapter's, word by word: for each word of a plan, which of all that it took has it.

// limit is how many words a plan has at most.
const limit = 2048

// noNames are texts that are none.
var noNames = chart.NoNames()

// ask is what is asked of Alloc.
type ask struct {
	name   string
	n      int
	secret bool
}

// plain is how many words a plan has, and all that it took, in order.
type plain struct {
	size int
	took []ask
}

// owners are, of each word that is used, from 0 on, which ask took it.
func (p plain) owners() []int {
	var l []int
	for k, x := range p.took {
		for range x.n {
			l = append(l, k)
		}
	}
	return l
}

// has: does a region have that name?
func (p plain) has(name string) bool {
	return slices.ContainsFunc(p.took, func(x ask) bool { return x.name == name })
}

// answer is what Alloc is to answer.
func (p plain) answer(x ask) (int, api.Errno) {
	used := len(p.owners())
	if !chart.IsName(x.name) {
		return 0, api.ErrName
	}
	if p.has(x.name) {
		return 0, api.ErrTwice
	}
	if x.n < 1 {
		return 0, api.ErrArg
	}
	if x.n > p.size-used {
		return 0, api.ErrFull
	}
	return used, api.OK
}

// regions are all, in order.
func (p plain) regions() []api.Region {
	var l []api.Region
	for addr, k := range p.owners() {
		if k == len(l) {
			l = append(l, api.Region{Name: p.took[k].name, At: addr, Secret: p.took[k].secret})
		}
		l[k].Len++
	}
	return l
}

// secret tells of each word that is used whether it is.
func (p plain) secret() []bool {
	var l []bool
	for _, k := range p.owners() {
		l = append(l, p.took[k].secret)
	}
	return l
}

// beyond are addresses that no region of a plan that uses so many words has: next to its own, the ends, and such as it has when cut to fewer bits, or counted from behind.
func beyond(used int) []int {
	l := []int{-1, -2, used, used + 1, -used, -used - 1, 2 * used, limit - 1, limit, limit + 1, -limit, math.MinInt, math.MinInt + 1, math.MaxInt, math.MaxInt - 1}
	for bits := range 63 {
		l = append(l, 1<<bits, 1<<bits+1, -1<<bits, -1<<bits+1, 1<<bits-1)
	}
	return slices.DeleteFunc(l, func(addr int) bool { return addr >= 0 && addr < used })
}

// pair is a plan, and what it took.
type pair struct {
	plan *plan.Plan
	took plain
}

// made is a plan of so many words.
func made(t *testing.T, size int) *pair {
	t.Helper()
	p, e := plan.New(size)
	if p == nil || e != api.OK {
		t.Fatalf("New(%d) = %v, %v", size, p, e)
	}
	return &pair{plan: p, took: plain{size: size}}
}

// alloc asks a plan for a region, and holds what it answers.
func (p *pair) alloc(t *testing.T, x ask) {
	t.Helper()
	at, want := p.took.answer(x)
	if got, e := p.plan.Alloc(x.name, x.n, x.secret); got != at || e != want {
		t.Fatalf("of %d words, behind %v: Alloc of %v = %d, %v, want %d, %v", p.took.size, p.took.took, x, got, e, at, want)
	}
	if want == api.OK {
		p.took.took = append(p.took.took, x)
	}
}

// refuse asks a plan for a region, and holds that it answers just an error.
func (p *pair) refuse(t *testing.T, x ask, want api.Errno) {
	t.Helper()
	if at, e := p.plan.Alloc(x.name, x.n, x.secret); at != 0 || e != want {
		t.Fatalf("of %d words, behind %v: Alloc of %v = %d, %v, want 0, %v", p.took.size, p.took.took, x, at, e, want)
	}
}

// check holds all that a plan tells: of its regions' names, of some others, and of all addresses.
func (p *pair) check(t *testing.T, others ...string) {
	t.Helper()
	owners, regions := p.took.owners(), p.took.regions()
	if got := p.plan.Used(); got != len(owners) {
		t.Fatalf("behind %v: Used() = %d, want %d", p.took, got, len(owners))
	}
	if got := p.plan.Regions(); !slices.Equal(got, regions) {
		t.Fatalf("behind %v: Regions() = %v, want %v", p.took, got, regions)
	}
	if got, want := p.plan.Secret(), p.took.secret(); !slices.Equal(got, want) {
		t.Fatalf("behind %v: Secret() = %v, want %v", p.took, got, want)
	}
	for _, r := range regions {
		if got, ok := p.plan.Find(r.Name); got != r || !ok {
			t.Fatalf("behind %v: Find(%q) = %v, %t, want %v", p.took, r.Name, got, ok, r)
		}
	}
	for _, name := range append(others, "z_z", "") {
		if got, ok := p.plan.Find(name); !p.took.has(name) && (got != api.Region{} || ok) {
			t.Fatalf("behind %v: Find(%q) = %v, %t, want none", p.took, name, got, ok)
		}
	}
	off := 0
	for addr, k := range owners {
		if addr == 0 || owners[addr-1] != k {
			off = 0
		}
		p.checkAt(t, addr, regions[k], off, true)
		off++
	}
	for _, addr := range beyond(len(owners)) {
		p.checkAt(t, addr, api.Region{}, 0, false)
	}
}

// checkAt holds what a plan tells of an address.
func (p *pair) checkAt(t *testing.T, addr int, r api.Region, off int, ok bool) {
	t.Helper()
	if got, n, is := p.plan.At(addr); got != r || n != off || is != ok {
		t.Fatalf("behind %v: At(%d) = %v, %d, %t, want %v, %d, %t", p.took, addr, got, n, is, r, off, ok)
	}
}

// checkNone holds that a plan is none: ErrNil, nothing, false, by all calls.
func checkNone(t *testing.T, p *plan.Plan) {
	t.Helper()
	x := pair{plan: p}
	for range 2 {
		x.check(t, "a", "b_1")
		for _, n := range []int{1, 0, -1, limit, limit + 1, math.MinInt, math.MaxInt} {
			for _, name := range append([]string{"a", "b_1"}, noNames...) {
				x.refuse(t, ask{name, n, n > 0}, api.ErrNil)
			}
		}
	}
}
