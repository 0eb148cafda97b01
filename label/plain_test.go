package label_test

import (
	"math"
	"testing"

	"astrolabe/api"
	"astrolabe/chart"
	"astrolabe/label"
)

// The reckoning of the tests is the chapter's: all that was told of names, in order, gone through anew for each answer, without maps and without sorting.

// ends are places at which sums and comparisons turn, some of them alike when cut to fewer bits; the first one is what is answered where there is no place.
var ends = []int{0, 1, -1, 2, -2, 3, 7, 255, 256, 2047, 16383, 16384, 65535, 65536, 65537, -65536,
	1<<31 - 1, 1 << 31, -1 << 31, -1<<31 - 1, 1<<32 - 1, 1 << 32, 1<<32 + 1, -1 << 32,
	math.MaxInt - 1, math.MaxInt, math.MinInt, math.MinInt + 1}

// noNames are texts that are none.
var noNames = chart.NoNames()

// telling is what a table was told, and took: that a name has a place, or is used at one.
type telling struct {
	used  bool
	name  string
	place int
}

// plain is all that a table took, in order.
type plain []telling

// ahead: does a stand ahead of b, byte by byte?
func ahead(a, b string) bool {
	for k := 0; k < len(a) && k < len(b); k++ {
		if a[k] != b[k] {
			return a[k] < b[k]
		}
	}
	return len(a) < len(b)
}

// place is the one of the first telling of it.
func (p plain) place(name string) (int, bool) {
	for _, x := range p {
		if !x.used && x.name == name {
			return x.place, true
		}
	}
	return 0, false
}

// names are those that have a place, each the least one behind the one ahead.
func (p plain) names() []string {
	var l []string
	for {
		next, found := "", false
		for _, x := range p {
			behind := len(l) == 0 || ahead(l[len(l)-1], x.name)
			if !x.used && behind && (!found || ahead(x.name, next)) {
				next, found = x.name, true
			}
		}
		if !found {
			return l
		}
		l = append(l, next)
	}
}

// resolve is what Resolve is to answer.
func (p plain) resolve() ([]api.Fix, string, api.Errno) {
	var l []api.Fix
	for _, x := range p {
		if !x.used {
			continue
		}
		to, ok := p.place(x.name)
		if !ok {
			return nil, x.name, api.ErrNone
		}
		l = append(l, api.Fix{At: x.place, To: to})
	}
	return l, "", api.OK
}

// pair is a table, and what it took.
type pair struct {
	table *label.Table
	took  plain
}

// made is a table without names.
func made(t *testing.T) *pair {
	t.Helper()
	table := label.New()
	if table == nil {
		t.Fatal("New() = nil")
	}
	return &pair{table: table}
}

// tell tells a table that a name has a place, or is used, and holds what it answers.
func (p *pair) tell(t *testing.T, x telling) {
	t.Helper()
	call, want := p.table.Define, api.OK
	if x.used {
		call = p.table.Use
	}
	if _, twice := p.took.place(x.name); twice && !x.used {
		want = api.ErrTwice
	}
	if !chart.IsName(x.name) {
		want = api.ErrName
	}
	if e := call(x.name, x.place); e != want {
		t.Fatalf("behind %v: %+v: %v, want %v", p.took, x, e, want)
	}
	if want == api.OK {
		p.took = append(p.took, x)
	}
}

// define tells that a name has a place.
func (p *pair) define(t *testing.T, name string, place int) {
	t.Helper()
	p.tell(t, telling{false, name, place})
}

// use tells that a name is used.
func (p *pair) use(t *testing.T, name string, at int) {
	t.Helper()
	p.tell(t, telling{true, name, at})
}
