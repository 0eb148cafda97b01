package trace_test

import (
	"math"
	"slices"
	"testing"

	"astrolabe/api"
	"astrolabe/code"
	"astrolabe/core"
	"astrolabe/trace"
)

// check holds what is told of one list.
func check(t *testing.T, l []api.Mark) {
	t.Helper()
	if got, want := trace.Cost(l), sum(costs(l)); got != want {
		t.Fatalf("Cost(%.9v) = %d, want %d", l, got, want)
	}
	if got, want := trace.Addrs(l), plainAddrs(l); !slices.Equal(got, want) {
		t.Fatalf("Addrs(%.9v) = %v, want %v", l, got, want)
	}
	if got, want := trace.Folds(l), plainFolds(l); !slices.Equal(got, want) {
		t.Fatalf("Folds(%.9v) = %v, want %v", l, got, want)
	}
	checkRows(t, l)
}

// checkRows holds the rows of a list, and that they are all.
func checkRows(t *testing.T, l []api.Mark) {
	t.Helper()
	rows := trace.Rows(l)
	if want := plainRows(l); !slices.Equal(rows, want) {
		t.Fatalf("Rows(%.9v) = %v, want %v", l, rows, want)
	}
	var times, cost []int
	for _, row := range rows {
		times, cost = append(times, row.Times), append(cost, row.Cost)
	}
	if sum(times) != len(l) || sum(cost) != sum(costs(l)) {
		t.Fatalf("of %.9v all rows have %d marks, which cost %d", l, sum(times), sum(cost))
	}
}

// checkTop holds the n rows that cost most.
func checkTop(t *testing.T, l []api.Mark, n int) {
	t.Helper()
	if got, want := trace.Top(l, n), plainTop(l, n); !slices.Equal(got, want) {
		t.Fatalf("Top(%.9v, %d) = %v, want %v", l, n, got, want)
	}
}

// checkFirst holds the first mark that is unlike, both ways round, and that what is ahead of it is alike.
func checkFirst(t *testing.T, a, b []api.Mark, want int) {
	t.Helper()
	for range 2 {
		got := trace.First(a, b)
		if got != want {
			t.Fatalf("First(%.9v, %.9v) = %d, want %d", a, b, got, want)
		}
		if (got == -1) != slices.Equal(a, b) {
			t.Fatalf("First(%.9v, %.9v) = %d", a, b, got)
		}
		if ahead := max(got, 0); !slices.Equal(a[:ahead], b[:ahead]) || trace.First(a[:ahead], b[:ahead]) != -1 {
			t.Fatalf("of %.9v and %.9v not all is alike ahead of %d", a, b, got)
		}
		a, b = b, a
	}
}

// costing are marks of some costs; at are marks of some places; asking are marks of some addresses.
func costing(l ...int) []api.Mark { return marks(l, func(m *api.Mark, x int) { m.Cost = x }) }
func at(l ...int) []api.Mark      { return marks(l, func(m *api.Mark, x int) { m.Pc = x }) }
func asking(l ...int) []api.Mark  { return marks(l, func(m *api.Mark, x int) { m.Addr = x }) }

// marks are those of some numbers, one each, that are put into a field; their other fields are unlike one another.
func marks(l []int, put func(*api.Mark, int)) []api.Mark {
	var out []api.Mark
	for k, x := range l {
		m := api.Mark{Pc: 3*k + 4, Addr: 5*k - 1, Cost: k + 2}
		put(&m, x)
		out = append(out, m)
	}
	return out
}

// longs are lengths of lists.
var longs = []int{0, 1, 2, 3, 4, 5, 7, 11, 12, 13, 16, 31, 64, 100, 257, 600}

// The chapter's example.

func TestExample(t *testing.T) {
	l := []api.Mark{{Pc: 0, Addr: -1, Cost: 1}, {Pc: 1, Addr: -1, Cost: 1}, {Pc: 1, Addr: -1, Cost: 1}, {Pc: 2, Addr: -1, Cost: 1}}
	if got := trace.Folds(l); !slices.Equal(got, []int{2}) {
		t.Errorf("Folds = %v, want 2", got)
	}
}

func TestOfNothing(t *testing.T) {
	for _, l := range [][]api.Mark{nil, {}} {
		if trace.Cost(l) != 0 || len(trace.Addrs(l)) != 0 || len(trace.Folds(l)) != 0 || len(trace.Rows(l)) != 0 {
			t.Error(trace.Cost(l), trace.Addrs(l), trace.Folds(l), trace.Rows(l))
		}
		for _, x := range ends {
			if trace.Count(l, x) != 0 || len(trace.Top(l, x)) != 0 {
				t.Errorf("of %d: %d, %v", x, trace.Count(l, x), trace.Top(l, x))
			}
		}
		for _, other := range [][]api.Mark{nil, {}} {
			checkFirst(t, l, other, -1)
		}
	}
}

func TestListsOfAllKinds(t *testing.T) {
	for _, n := range longs {
		for _, l := range kinds(n) {
			check(t, l)
			for _, most := range []int{1, 2, 5, n} {
				checkTop(t, l, most)
			}
		}
	}
}

// P17.1: Cost, Count

func TestCost(t *testing.T) {
	for _, c := range []struct {
		l    []int
		want int
	}{
		{[]int{5}, 5}, {[]int{1, 2, 3}, 6}, {[]int{2, 3, 2}, 7}, {[]int{7, 7, 7, 7}, 28}, {[]int{0, 0}, 0}, {[]int{-5}, -5},
		{[]int{-5, 2}, -3}, {[]int{5, -5}, 0}, {[]int{-1, -1, -1}, -3}, {[]int{1<<31 - 1, 1}, 1 << 31}, {[]int{1<<32 - 1, 1}, 1 << 32},
		{[]int{-1 << 31, -1}, -1<<31 - 1}, {[]int{1 << 32, 1 << 32, 36}, 1<<33 + 36}, {[]int{-1 << 32, 7}, -1<<32 + 7},
		{[]int{math.MaxInt}, math.MaxInt}, {[]int{math.MinInt}, math.MinInt}, {[]int{math.MaxInt, math.MinInt}, -1},
		{[]int{math.MaxInt - 1, 1}, math.MaxInt},
	} {
		if got := trace.Cost(costing(c.l...)); got != c.want {
			t.Errorf("what costs %v costs %d, want %d", c.l, got, c.want)
		}
	}
}

func TestCostGoesRound(t *testing.T) {
	for _, c := range []struct {
		l    []int
		want int
	}{
		{[]int{math.MaxInt, 1}, math.MinInt}, {[]int{1, math.MaxInt}, math.MinInt}, {[]int{math.MinInt, -1}, math.MaxInt},
		{[]int{math.MaxInt, math.MaxInt}, -2}, {[]int{math.MinInt, math.MinInt}, 0}, {[]int{1 << 62, 1 << 62}, math.MinInt},
		{[]int{1 << 62, 1 << 62, 1 << 62, 1 << 62}, 0}, {[]int{1 << 62, 1 << 62, 1 << 62}, -1 << 62}, {[]int{math.MaxInt, math.MaxInt, 3}, 1},
		{[]int{math.MinInt, math.MinInt, -9}, -9}, {[]int{math.MaxInt, 2, -2}, math.MaxInt}, {[]int{math.MinInt, -7, 7}, math.MinInt},
	} {
		if got := trace.Cost(costing(c.l...)); got != c.want {
			t.Errorf("what costs %v costs %d, want %d", c.l, got, c.want)
		}
	}
	for _, x := range ends {
		for _, y := range ends {
			if got, want := trace.Cost(costing(x, y, x)), sum([]int{x, y, x}); got != want {
				t.Errorf("what costs %d, %d, %d costs %d, want %d", x, y, x, got, want)
			}
		}
	}
}

func TestCostHangsOnCostsAlone(t *testing.T) {
	for _, x := range ends {
		for _, y := range ends {
			if got := trace.Cost([]api.Mark{{Pc: x, Addr: y, Cost: 3}, {Pc: y, Addr: x, Cost: 30}, {Pc: x, Addr: y, Cost: 3}}); got != 36 {
				t.Errorf("Cost = %d at %d and %d", got, x, y)
			}
		}
	}
}

func TestCount(t *testing.T) {
	l := []api.Mark{{Pc: 4, Addr: 9, Cost: 2}, {Pc: 5, Addr: 4, Cost: 4}, {Pc: 4, Addr: -1, Cost: 5}, {Pc: -3, Addr: 5, Cost: 0}, {Pc: 4, Addr: 9, Cost: 2}, {Pc: 0, Addr: 7, Cost: 7}}
	for pc, want := range map[int]int{4: 3, 5: 1, -3: 1, 0: 1, 3: 0, 9: 0, -1: 0, 2: 0, 7: 0, 1: 0, -4: 0, 1<<32 + 4: 0, 1 << 32: 0, 65536 + 4: 0} {
		if got := trace.Count(l, pc); got != want {
			t.Errorf("Count at %d = %d, want %d", pc, got, want)
		}
	}
	for n := range len(l) {
		if got, want := trace.Count(l[:n], 4), plainCount(l[:n], 4); got != want {
			t.Errorf("Count of the first %d at 4 = %d, want %d", n, got, want)
		}
	}
}

func TestCountOfAllKinds(t *testing.T) {
	for _, n := range longs {
		for _, l := range kinds(n) {
			for _, pc := range append([]int{4, 6, 7, 8, 39, 40}, ends...) {
				if got, want := trace.Count(l, pc), plainCount(l, pc); got != want {
					t.Fatalf("Count(%.9v, %d) = %d, want %d", l, pc, got, want)
				}
			}
		}
	}
	for _, pc := range ends {
		for _, other := range ends {
			want := 2
			if pc == other {
				want = 5
			}
			if got := trace.Count(at(pc, other, other, pc, other), pc); got != want {
				t.Errorf("of 2 marks at %d and 3 at %d Count = %d", pc, other, got)
			}
		}
	}
}

// P17.2, P17.5: First

// changes are other marks than one, each unlike it in one field or in several.
func changes(m api.Mark) []api.Mark {
	var out []api.Mark
	for _, by := range []int{1, -1, 2, -2, 256, 65536, 1 << 31, 1 << 32, -1 << 32, 1 << 62, math.MinInt, math.MaxInt} {
		pc, addr, cost := m, m, m
		pc.Pc += by
		addr.Addr += by
		cost.Cost += by
		// What all three are together, and what each two are, stays.
		out = append(out, pc, addr, cost, api.Mark{Pc: m.Pc + by, Addr: m.Addr - by, Cost: m.Cost},
			api.Mark{Pc: m.Pc, Addr: m.Addr + by, Cost: m.Cost - by}, api.Mark{Pc: m.Pc - by, Addr: m.Addr, Cost: m.Cost + by})
	}
	return out
}

func TestFirst(t *testing.T) {
	a := []api.Mark{{Pc: 4, Addr: 9, Cost: 2}, {Pc: 5, Addr: -1, Cost: 3}, {Pc: 4, Addr: 7, Cost: 2}}
	b := []api.Mark{{Pc: 4, Addr: 9, Cost: 2}, {Pc: 5, Addr: -1, Cost: 1}}
	checkFirst(t, a, a, -1)
	checkFirst(t, a, b, 1)
	checkFirst(t, a[:1], b[:1], -1)
	checkFirst(t, a, a[:1], 1)
	checkFirst(t, a, a[:2], 2)
	checkFirst(t, a, nil, 0)
	checkFirst(t, a[2:], b, 0)
	checkFirst(t, []api.Mark{a[0], b[1], a[2]}, a, 1)
	checkFirst(t, []api.Mark{a[1], a[0]}, a[:2], 0)
}

func TestFirstOfListsThatAreAlike(t *testing.T) {
	for _, n := range append(longs, 100000) {
		for _, l := range kinds(n) {
			checkFirst(t, l, l, -1)
			checkFirst(t, l, slices.Clone(l), -1)
			checkFirst(t, l, append(make([]api.Mark, 0, 2*n+9), l...), -1)
		}
	}
}

func TestFirstOfOneMarkThatIsUnlike(t *testing.T) {
	for _, n := range []int{1, 2, 3, 5, 16, 33} {
		for _, l := range kinds(n) {
			for k := range l {
				for _, m := range changes(l[k]) {
					other := slices.Clone(l)
					other[k] = m
					checkFirst(t, l, other, k)
				}
			}
		}
	}
}

func TestFirstOfSeveralMarksThatAreUnlike(t *testing.T) {
	l := kinds(12)[1]
	for first := range l {
		for second := first + 1; second < len(l); second++ {
			other := slices.Clone(l)
			other[first].Cost++
			other[second].Cost--
			checkFirst(t, l, other, first)
			checkFirst(t, l, append(other, api.Mark{}), first)
			checkFirst(t, l, other[:second], first)
			swapped := slices.Clone(l)
			swapped[first], swapped[second] = api.Mark{Pc: -7}, api.Mark{Pc: -8}
			back := slices.Clone(l)
			back[first], back[second] = api.Mark{Pc: -8}, api.Mark{Pc: -7}
			checkFirst(t, swapped, back, first)
		}
	}
}

func TestFirstOfAListThatHasMore(t *testing.T) {
	for _, n := range []int{0, 1, 2, 3, 16, 257} {
		for _, more := range []int{1, 2, 3, 40} {
			for _, l := range kinds(n + more) {
				checkFirst(t, l[:n], l, n)
				checkFirst(t, slices.Clone(l[:n]), l, n)
			}
			// Also a mark of noughts, and one as the last one, is a mark.
			checkFirst(t, make([]api.Mark, n), make([]api.Mark, n+more), n)
		}
	}
}

func TestFirstOfAllShortLists(t *testing.T) {
	three := []api.Mark{{}, {Pc: 1}, {Addr: -1}}
	lists := [][]api.Mark{nil}
	for from := 0; len(lists[from]) < 3; from++ {
		for _, m := range three {
			lists = append(lists, append(slices.Clone(lists[from]), m))
		}
	}
	for _, a := range lists {
		for _, b := range lists {
			checkFirst(t, a, b, plainFirst(a, b))
		}
	}
}

// P17.3: Addrs

func TestAddrs(t *testing.T) {
	for _, c := range []struct{ l, want []int }{
		{[]int{-1}, nil}, {[]int{-1, -1, -1}, nil}, {[]int{0}, []int{0}}, {[]int{9, -1, 7}, []int{7, 9}}, {[]int{5, 5, 5}, []int{5}},
		{[]int{3, 1, 2, 1, 3}, []int{1, 2, 3}}, {[]int{1, -1, 0, -1, 1}, []int{0, 1}}, {[]int{-2, -1, -3}, []int{-3, -2}},
		{[]int{1, -1, -2, 0}, []int{-2, 0, 1}}, {[]int{10, 9, 100, 1}, []int{1, 9, 10, 100}}, {[]int{2047, 1024, 1023, 2048}, []int{1023, 1024, 2047, 2048}},
		{[]int{1<<32 - 1, -1, 1 << 32, 0}, []int{0, 1<<32 - 1, 1 << 32}}, {[]int{math.MaxInt, math.MinInt, -1, 0}, []int{math.MinInt, 0, math.MaxInt}},
		{[]int{4, 2, 4, 2, 4, -1, 2, 4}, []int{2, 4}}, {[]int{1, 2, 3, 4}, []int{1, 2, 3, 4}}, {[]int{4, 3, 2, 1}, []int{1, 2, 3, 4}},
	} {
		if got := trace.Addrs(asking(c.l...)); !slices.Equal(got, c.want) {
			t.Errorf("of %v Addrs = %v, want %v", c.l, got, c.want)
		}
	}
}

func TestAddrsOfEnds(t *testing.T) {
	for _, x := range ends {
		for _, y := range ends {
			for _, l := range [][]api.Mark{asking(x, y), asking(x, y, x), asking(-1, x, x, -1, y, y), asking(y, 500, x)} {
				if got, want := trace.Addrs(l), plainAddrs(l); !slices.Equal(got, want) {
					t.Errorf("of %v Addrs = %v, want %v", l, got, want)
				}
			}
		}
	}
	if got, want := trace.Addrs(asking(append(ends, ends...)...)), plainAddrs(asking(ends...)); !slices.Equal(got, want) || len(got) != len(ends)-1 {
		t.Errorf("of all ends, twice: %v", got)
	}
}

func TestAddrsHangOnAddressesAlone(t *testing.T) {
	for _, x := range ends {
		l := []api.Mark{{Pc: x, Addr: 5, Cost: x}, {Pc: 1, Addr: 3, Cost: -1}, {Pc: x, Addr: -1, Cost: 9}, {Pc: -1, Addr: 5, Cost: x}}
		if got := trace.Addrs(l); !slices.Equal(got, []int{3, 5}) {
			t.Errorf("by places and costs of %d Addrs = %v", x, got)
		}
	}
}

// P17.4: Folds

func TestFolds(t *testing.T) {
	for _, c := range []struct{ l, want []int }{
		{[]int{0}, nil}, {[]int{7}, nil}, {[]int{-1}, nil}, {[]int{0, 1, 2, 3}, nil}, {[]int{5, 6, 7}, nil}, {[]int{-2, -1, 0, 1}, nil},
		{[]int{0, 1, 1, 2}, []int{2}}, {[]int{0, 0}, []int{1}}, {[]int{0, 2}, []int{1}}, {[]int{1, 0}, []int{1}}, {[]int{4, 4, 4, 4}, []int{1, 2, 3}},
		{[]int{3, 2, 1, 0}, []int{1, 2, 3}}, {[]int{0, 1, 2, 0, 1, 2, 0}, []int{3, 6}}, {[]int{0, 1, 5, 6, 2, 3}, []int{2, 4}},
		{[]int{9, 0, 1, 2, 3}, []int{1}}, {[]int{0, 1, 2, 3, 9}, []int{4}}, {[]int{0, 1<<32 + 1}, []int{1}}, {[]int{1<<32 - 1, 1 << 32}, nil},
		{[]int{1<<31 - 1, 1 << 31}, nil}, {[]int{1<<31 - 1, -1 << 31}, []int{1}}, {[]int{1<<32 - 1, 0}, []int{1}}, {[]int{65535, 0}, []int{1}},
		{[]int{math.MaxInt - 1, math.MaxInt, math.MinInt, math.MinInt + 1}, nil}, {[]int{math.MaxInt, math.MaxInt}, []int{1}},
		{[]int{math.MinInt, math.MaxInt}, []int{1}}, {[]int{math.MaxInt, math.MinInt + 1}, []int{1}}, {[]int{math.MaxInt, 0}, []int{1}},
		{[]int{math.MinInt, math.MinInt}, []int{1}}, {[]int{0, math.MinInt}, []int{1}},
	} {
		if got := trace.Folds(at(c.l...)); !slices.Equal(got, c.want) {
			t.Errorf("of %v Folds = %v, want %v", c.l, got, c.want)
		}
	}
}

func TestFoldsOfEnds(t *testing.T) {
	for _, x := range ends {
		if got := trace.Folds(at(x)); len(got) != 0 {
			t.Errorf("of the first mark, at %d, it is said: %v", x, got)
		}
		for _, y := range ends {
			for _, places := range [][]int{{x, y}, {x, y, y}, {y, x, sum([]int{x, 1}), y}, {x, sum([]int{x, -1}), y, sum([]int{y, 1})}} {
				l := at(places...)
				if got, want := trace.Folds(l), plainFolds(l); !slices.Equal(got, want) {
					t.Errorf("of %v Folds = %v, want %v", places, got, want)
				}
			}
		}
	}
}

func TestFoldsHangOnPlacesAlone(t *testing.T) {
	for _, x := range ends {
		l := []api.Mark{{Pc: 8, Addr: x, Cost: 1}, {Pc: 9, Addr: 7, Cost: x}, {Pc: 10, Addr: 8, Cost: x + 1}, {Pc: 10, Addr: 9, Cost: 2}, {Pc: 11, Addr: x, Cost: 3}}
		if got := trace.Folds(l); !slices.Equal(got, []int{3}) {
			t.Errorf("by addresses and costs of %d Folds = %v", x, got)
		}
	}
}

// P17.6, P17.8: Rows

func TestRows(t *testing.T) {
	for _, c := range []struct {
		l    []api.Mark
		want []api.Heat
	}{
		{[]api.Mark{{}}, []api.Heat{{Times: 1}}},
		{[]api.Mark{{Pc: 3, Addr: -1, Cost: 1}}, []api.Heat{{Pc: 3, Addr: -1, Times: 1, Cost: 1}}},
		{[]api.Mark{{Pc: 3, Addr: 5, Cost: 2}, {Pc: 3, Addr: 5, Cost: 2}, {Pc: 3, Addr: 5, Cost: 7}}, []api.Heat{{Pc: 3, Addr: 5, Times: 3, Cost: 11}}},
		{[]api.Mark{{Pc: 3, Addr: 5, Cost: 2}, {Pc: 3, Addr: -1, Cost: 4}, {Pc: 3, Addr: 5, Cost: -3}, {Pc: 2, Addr: 9, Cost: 0}, {Pc: 3, Addr: 4, Cost: 1}},
			[]api.Heat{{Pc: 2, Addr: 9, Times: 1}, {Pc: 3, Addr: -1, Times: 1, Cost: 4}, {Pc: 3, Addr: 4, Times: 1, Cost: 1}, {Pc: 3, Addr: 5, Times: 2, Cost: -1}}},
		{[]api.Mark{{Pc: 5, Addr: 3, Cost: 1}, {Pc: 3, Addr: 5, Cost: 1}}, []api.Heat{{Pc: 3, Addr: 5, Times: 1, Cost: 1}, {Pc: 5, Addr: 3, Times: 1, Cost: 1}}},
		{[]api.Mark{{Pc: 1, Addr: 23, Cost: 1}, {Pc: 12, Addr: 3, Cost: 2}}, []api.Heat{{Pc: 1, Addr: 23, Times: 1, Cost: 1}, {Pc: 12, Addr: 3, Times: 1, Cost: 2}}},
		{[]api.Mark{{Pc: 0, Addr: 2048, Cost: 1}, {Pc: 1, Addr: 0, Cost: 2}, {Pc: 1, Addr: -1, Cost: 3}, {Pc: 0, Addr: 2047, Cost: 4}},
			[]api.Heat{{Pc: 0, Addr: 2047, Times: 1, Cost: 4}, {Pc: 0, Addr: 2048, Times: 1, Cost: 1}, {Pc: 1, Addr: -1, Times: 1, Cost: 3}, {Pc: 1, Addr: 0, Times: 1, Cost: 2}}},
		{[]api.Mark{{Pc: 1, Addr: 1, Cost: math.MaxInt}, {Pc: 1, Addr: 1, Cost: 1}, {Pc: -1, Addr: -2, Cost: math.MinInt}, {Pc: -1, Addr: -2, Cost: -1}},
			[]api.Heat{{Pc: -1, Addr: -2, Times: 2, Cost: math.MaxInt}, {Pc: 1, Addr: 1, Times: 2, Cost: math.MinInt}}},
		{[]api.Mark{{Pc: 10, Addr: -1, Cost: 1}, {Pc: 9, Addr: -1, Cost: 1}, {Pc: 100, Addr: -1, Cost: 1}},
			[]api.Heat{{Pc: 9, Addr: -1, Times: 1, Cost: 1}, {Pc: 10, Addr: -1, Times: 1, Cost: 1}, {Pc: 100, Addr: -1, Times: 1, Cost: 1}}},
	} {
		if got := trace.Rows(c.l); !slices.Equal(got, c.want) {
			t.Errorf("Rows(%v) = %v, want %v", c.l, got, c.want)
		}
	}
}

func TestRowsOfEnds(t *testing.T) {
	var all []api.Mark
	for _, x := range ends {
		for _, y := range ends {
			all = append(all, api.Mark{Pc: x, Addr: y, Cost: x}, api.Mark{Pc: y, Addr: x, Cost: y})
			checkRows(t, []api.Mark{{Pc: x, Addr: y, Cost: 1}, {Pc: y, Addr: x, Cost: 2}, {Pc: x, Addr: y, Cost: 4}})
			checkRows(t, []api.Mark{{Pc: 5, Addr: x, Cost: y}, {Pc: 5, Addr: y, Cost: x}, {Pc: 5, Addr: y, Cost: y}})
			checkRows(t, []api.Mark{{Pc: x, Addr: 5, Cost: y}, {Pc: y, Addr: 5, Cost: x}, {Pc: x, Addr: 5, Cost: x}})
		}
	}
	checkRows(t, all)
	if got := len(trace.Rows(all)); got != len(ends)*len(ends) {
		t.Errorf("of %d places and as many addresses there are %d rows", len(ends), got)
	}
}

// swaps goes through all orders of a list from k on.
func swaps(l []api.Mark, k int, see func([]api.Mark)) {
	if k == len(l) {
		see(l)
		return
	}
	for n := k; n < len(l); n++ {
		l[k], l[n] = l[n], l[k]
		swaps(l, k+1, see)
		l[k], l[n] = l[n], l[k]
	}
}

func TestRowsHangOnNoOrder(t *testing.T) {
	l := []api.Mark{{Pc: 2, Addr: 4, Cost: 2}, {Pc: 2, Addr: 3, Cost: 4}, {Pc: 1, Addr: -1, Cost: 6}, {Pc: 2, Addr: 4, Cost: math.MaxInt}, {Pc: 0, Addr: 9, Cost: -5}, {Pc: 1, Addr: -1, Cost: 0}}
	rows, top := trace.Rows(l), trace.Top(l, 3)
	swaps(slices.Clone(l), 0, func(other []api.Mark) {
		if got := trace.Rows(other); !slices.Equal(got, rows) {
			t.Fatalf("Rows(%v) = %v, want %v", other, got, rows)
		}
		if got := trace.Top(other, 3); !slices.Equal(got, top) {
			t.Fatalf("Top(%v, 3) = %v, want %v", other, got, top)
		}
	})
	for _, n := range []int{2, 13, 100, 600, 20000} {
		for _, l := range kinds(n) {
			c, other := chance(9), slices.Clone(l)
			rows := trace.Rows(l)
			for range 3 {
				for k := range other {
					far := c.below(n)
					other[k], other[far] = other[far], other[k]
				}
				if got := trace.Rows(other); !slices.Equal(got, rows) {
					t.Fatalf("of %d marks in another order Rows are %.9v, want %.9v", n, got, rows)
				}
			}
		}
	}
}

func TestRowsOfManyMarks(t *testing.T) {
	l := make([]api.Mark, 200000)
	for k := range l {
		// Each row has two marks, far from one another, the rows from behind.
		row := 99999 - k%100000
		l[k] = api.Mark{Pc: row / 7, Addr: row%7 - 1, Cost: k}
	}
	rows := trace.Rows(l)
	if len(rows) != 100000 {
		t.Fatalf("there are %d rows", len(rows))
	}
	for row, got := range rows {
		if want := (api.Heat{Pc: row / 7, Addr: row%7 - 1, Times: 2, Cost: 100000 + 2*(99999-row)}); got != want {
			t.Fatalf("row %d is %v, want %v", row, got, want)
		}
	}
}

// P17.7: Top

func TestTop(t *testing.T) {
	l := []api.Mark{{Pc: 2, Addr: 4, Cost: 2}, {Pc: 2, Addr: 3, Cost: 2}, {Pc: 1, Addr: -1, Cost: 1}, {Pc: 2, Addr: 4, Cost: 3}, {Pc: 0, Addr: -1, Cost: 5}, {Pc: 7, Addr: 0, Cost: -4}}
	// The first two cost the same, and stand so in Rows; the latter has more marks, the former its mark later.
	want := []api.Heat{{Pc: 0, Addr: -1, Times: 1, Cost: 5}, {Pc: 2, Addr: 4, Times: 2, Cost: 5}, {Pc: 2, Addr: 3, Times: 1, Cost: 2}, {Pc: 1, Addr: -1, Times: 1, Cost: 1}, {Pc: 7, Addr: 0, Times: 1, Cost: -4}}
	for n := range 9 {
		if got := trace.Top(l, n); !slices.Equal(got, want[:min(n, 5)]) {
			t.Errorf("Top of %d: %v", n, got)
		}
	}
}

func TestTopOfFewAndMany(t *testing.T) {
	for _, size := range longs {
		for _, l := range kinds(size) {
			rows := len(trace.Rows(l))
			for _, n := range append([]int{rows - 2, rows - 1, rows, rows + 1, rows + 2, size, 2 * size}, ends...) {
				got := trace.Top(l, n)
				if len(got) != max(min(n, rows), 0) {
					t.Fatalf("of %d rows Top of %d has %d", rows, n, len(got))
				}
				if n < 3 || n == rows {
					checkTop(t, l, n)
				}
			}
		}
	}
	for _, n := range []int{0, -1, -2, -5, math.MinInt, math.MinInt + 1, -1 << 32, -1<<32 + 1, -1 << 31} {
		if got := trace.Top([]api.Mark{{Pc: 1, Addr: 1, Cost: 5}, {Pc: 2, Addr: 1, Cost: 6}}, n); len(got) != 0 {
			t.Errorf("Top of %d: %v", n, got)
		}
	}
}

// Rows that cost the same stand as in Rows, of however many there are.
func TestTopOfWhatCostsTheSame(t *testing.T) {
	for _, size := range []int{2, 3, 11, 12, 13, 40, 100, 1000} {
		for _, costs := range []int{1, 2, 3} {
			var l []api.Mark
			for k := range size {
				// The rows' marks come in another order than the rows stand in.
				row := k * 7 % size
				if size%7 == 0 {
					row = size - 1 - k
				}
				l = append(l, api.Mark{Pc: row / 3, Addr: row%3 - 1, Cost: 10 + row%costs})
			}
			got := trace.Top(l, size)
			if want := plainTop(l, size); !slices.Equal(got, want) || len(got) != size {
				t.Errorf("of %d rows of %d costs: %.9v, want %.9v", size, costs, got, want)
			}
		}
	}
}

func TestTopOfEnds(t *testing.T) {
	for _, x := range ends {
		for _, y := range ends {
			l := []api.Mark{{Pc: 3, Addr: 0, Cost: x}, {Pc: 4, Addr: 0, Cost: y}, {Pc: 5, Addr: 0, Cost: 0}, {Pc: x, Addr: y, Cost: 1}, {Pc: 4, Addr: y, Cost: x}}
			for n := range 7 {
				checkTop(t, l, n)
			}
		}
	}
	// What a row costs in all goes round ahead of being held against the others.
	l := []api.Mark{{Pc: 1, Addr: 0, Cost: math.MaxInt}, {Pc: 1, Addr: 0, Cost: 1}, {Pc: 2, Addr: 0, Cost: 5}, {Pc: 3, Addr: 0, Cost: math.MinInt}, {Pc: 3, Addr: 0, Cost: -1}}
	want := []api.Heat{{Pc: 3, Times: 2, Cost: math.MaxInt}, {Pc: 2, Times: 1, Cost: 5}, {Pc: 1, Times: 2, Cost: math.MinInt}}
	if got := trace.Top(l, 3); !slices.Equal(got, want) {
		t.Errorf("Top = %v, want %v", got, want)
	}
}

// What holds of all calls.

// all are all calls, each done with one list.
func all(l []api.Mark) {
	trace.Cost(l)
	trace.First(l, l)
	trace.Addrs(l)
	trace.Count(l, 7)
	trace.Folds(l)
	trace.Rows(l)
	trace.Top(l, 3)
}

func TestNothingThatIsHandedInChanges(t *testing.T) {
	for _, n := range longs {
		for _, l := range kinds(n) {
			same := slices.Clone(l)
			// Also behind a list nothing changes that is of the same memory.
			for _, part := range [][]api.Mark{l, l[:n/2], l[n/2:]} {
				all(part)
			}
			if !slices.Equal(l, same) {
				t.Fatalf("what was handed in is now %.9v, was %.9v", l, same)
			}
		}
	}
}

func TestAnswersAreNewAndHangOnArgumentsAlone(t *testing.T) {
	for _, l := range kinds(40) {
		addrs, folds, rows, top := trace.Addrs(l), trace.Folds(l), trace.Rows(l), trace.Top(l, 2)
		for _, other := range [][]int{trace.Addrs(l), trace.Folds(l)} {
			clear(other[:cap(other)])
			_ = append(other, -9, -9)
		}
		for _, other := range [][]api.Heat{trace.Rows(l), trace.Top(l, 2), trace.Top(l, 99)} {
			clear(other[:cap(other)])
			_ = append(other, api.Heat{Pc: -9})
		}
		all(kinds(30)[1])
		if !slices.Equal(trace.Addrs(l), addrs) || !slices.Equal(trace.Folds(l), folds) || !slices.Equal(trace.Rows(l), rows) || !slices.Equal(trace.Top(l, 2), top) {
			t.Fatalf("of %.9v answers are now others", l)
		}
		same := [][]int{slices.Clone(addrs), slices.Clone(folds)}
		heats := [][]api.Heat{slices.Clone(rows), slices.Clone(top)}
		clear(l)
		all(l)
		if !slices.Equal(addrs, same[0]) || !slices.Equal(folds, same[1]) || !slices.Equal(rows, heats[0]) || !slices.Equal(top, heats[1]) {
			t.Fatal("answers changed with what was handed in")
		}
	}
}

// ran are the marks of a core that counts down from 3, and loads a word each time, and what it cost.
func ran(t *testing.T, data []int32) ([]api.Mark, int) {
	t.Helper()
	var words []uint32
	for _, i := range []api.Ins{{Op: api.OpAddi, D: 1, N: 3}, {Op: api.OpLw, D: 2, A: 1, N: 1021}, {Op: api.OpDiv, D: 3, A: 2, B: 1},
		{Op: api.OpAddi, D: 1, A: 1, N: -1}, {Op: api.OpBne, D: 1, N: 1}, {Op: api.OpHalt}} {
		w, e := code.Encode(i)
		if e != api.OK {
			t.Fatal(e)
		}
		words = append(words, w)
	}
	c, e := core.New(words, data)
	if e != api.OK {
		t.Fatal(e)
	}
	if c.Run(100); c.State() != api.Halted {
		t.Fatalf("the state is %d", c.State())
	}
	return c.Marks(), c.Cycles()
}

func TestARunOfTheCore(t *testing.T) {
	data := make([]int32, 1025)
	data[1022], data[1023], data[1024] = 1, 2, 4
	l, cost := ran(t, data)
	if got := trace.Cost(l); got != cost || got != 31 {
		t.Errorf("Cost = %d, the core tells %d", got, cost)
	}
	if got := trace.Count(l, 1); got != 3 {
		t.Errorf("Count of the load = %d", got)
	}
	if got := trace.Addrs(l); !slices.Equal(got, []int{1022, 1023, 1024}) {
		t.Errorf("Addrs = %v", got)
	}
	if got := trace.Folds(l); !slices.Equal(got, []int{5, 9}) {
		t.Errorf("Folds = %v", got)
	}
	rows := []api.Heat{{Pc: 0, Addr: -1, Times: 1, Cost: 1}, {Pc: 1, Addr: 1022, Times: 1, Cost: 2}, {Pc: 1, Addr: 1023, Times: 1, Cost: 2}, {Pc: 1, Addr: 1024, Times: 1, Cost: 3},
		{Pc: 2, Addr: -1, Times: 3, Cost: 12}, {Pc: 3, Addr: -1, Times: 3, Cost: 3}, {Pc: 4, Addr: -1, Times: 3, Cost: 7}, {Pc: 5, Addr: -1, Times: 1, Cost: 1}}
	if got := trace.Rows(l); !slices.Equal(got, rows) {
		t.Errorf("Rows = %v", got)
	}
	if got := trace.Top(l, 4); !slices.Equal(got, []api.Heat{rows[4], rows[6], rows[3], rows[5]}) {
		t.Errorf("Top = %v", got)
	}
	check(t, l)
	// What a division costs hangs on its number: the mark of the second one is unlike.
	data[1023] = 1
	other, _ := ran(t, data)
	checkFirst(t, l, other, 6)
}
