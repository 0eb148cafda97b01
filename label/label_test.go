package label_test

import (
	"maps"
	"slices"
	"strconv"
	"strings"
	"testing"

	"astrolabe/api"
	"astrolabe/chart"
	"astrolabe/label"
)

// check holds all that a table tells: of the names that it took, of some others, and of such as are none.
func (p *pair) check(t *testing.T, others ...string) {
	t.Helper()
	if got, want := p.table.Names(), p.took.names(); !slices.Equal(got, want) {
		t.Fatalf("behind %v: Names() = %q, want %q", p.took, got, want)
	}
	for _, x := range p.took {
		others = append(others, x.name)
	}
	for _, name := range append(others, "z_z", "") {
		x, has := p.took.place(name)
		if got, ok := p.table.Place(name); got != x || ok != has {
			t.Fatalf("behind %v: Place(%q) = %d, %t, want %d, %t", p.took, name, got, ok, x, has)
		}
	}
	fixes, name, e := p.took.resolve()
	if l, s, got := p.table.Resolve(); !slices.Equal(l, fixes) || s != name || got != e {
		t.Fatalf("behind %v: Resolve() = %v, %q, %v, want %v, %q, %v", p.took, l, s, got, fixes, name, e)
	}
}

// checkResolve holds just what a table's Resolve answers.
func checkResolve(t *testing.T, table *label.Table, fixes []api.Fix, name string, e api.Errno) {
	t.Helper()
	if l, s, got := table.Resolve(); !slices.Equal(l, fixes) || s != name || got != e {
		t.Fatalf("Resolve() = %v, %q, %v, want %v, %q, %v", l, s, got, fixes, name, e)
	}
}

// checkNone holds that a table is none: ErrNil, nothing, false, by all calls.
func checkNone(t *testing.T, table *label.Table) {
	t.Helper()
	for range 2 {
		for _, name := range append([]string{"a", "b_1", strings.Repeat("z", chart.Longest)}, noNames...) {
			if e := table.Define(name, 7); e != api.ErrNil {
				t.Fatalf("Define(%q) = %v, want %v", name, e, api.ErrNil)
			}
			if e := table.Use(name, 7); e != api.ErrNil {
				t.Fatalf("Use(%q) = %v, want %v", name, e, api.ErrNil)
			}
			if x, ok := table.Place(name); x != 0 || ok {
				t.Fatalf("Place(%q) = %d, %t, want nothing", name, x, ok)
			}
		}
		if l := table.Names(); len(l) != 0 {
			t.Fatalf("Names() = %q, want none", l)
		}
		checkResolve(t, table, nil, "", api.ErrNil)
	}
}

func TestExample(t *testing.T) {
	x := label.New()
	if e := x.Use("a", 3); e != api.OK {
		t.Errorf("Use = %v", e)
	}
	if e := x.Define("a", 7); e != api.OK {
		t.Errorf("Define = %v", e)
	}
	checkResolve(t, x, []api.Fix{{At: 3, To: 7}}, "", api.OK)
}

// Words: a name

func TestIsOfEachByteAndOfEachTwo(t *testing.T) {
	n := 0
	for a := range 256 {
		first := string([]byte{byte(a)})
		if got := label.Is(first); got != (a >= 97 && a <= 122) {
			t.Errorf("Is(%q) = %t", first, got)
		}
		for b := range 256 {
			s := string([]byte{byte(a), byte(b)})
			if got := label.Is(s); got != chart.IsName(s) {
				t.Errorf("Is(%q) = %t", s, got)
			}
			if label.Is(s) {
				n++
			}
		}
	}
	if n != 26*37 {
		t.Errorf("%d names of two bytes", n)
	}
}

func TestIsOfEachByteAtEachPlace(t *testing.T) {
	for n := 1; n <= chart.Longest+2; n++ {
		for at := range n {
			for c := range 256 {
				s := []byte(strings.Repeat("q", n))
				s[at] = byte(c)
				want := n <= chart.Longest && (c >= 97 && c <= 122 || at > 0 && (c >= 48 && c <= 57 || c == 95))
				if got := label.Is(string(s)); got != want {
					t.Fatalf("Is(%q) = %t, want %t", s, got, want)
				}
			}
		}
	}
}

func TestIsOfEachLength(t *testing.T) {
	for _, text := range []string{"a", "z", "m_0", "a9", "z__"} {
		long := strings.Repeat(text, 1<<17+chart.Longest+1)
		for n := range 600 {
			if got := label.Is(long[:n]); got != (n >= 1 && n <= chart.Longest) {
				t.Errorf("Is of %d bytes = %t", n, got)
			}
		}
		// Such as would be a name's, if they were cut to fewer bits.
		for bits := 8; bits <= 17; bits++ {
			for _, n := range []int{0, 1, 2, chart.Longest, chart.Longest + 1} {
				if label.Is(long[:1<<bits+n]) {
					t.Errorf("Is of %d bytes", 1<<bits+n)
				}
			}
		}
	}
}

func TestIsByExactAnswers(t *testing.T) {
	for _, s := range []string{"a", "z", "aa", "a_", "a0", "a9", "az", "a__", "loop_1", "z9_z", "a_9", "abcdefghijklmnopqrstuvwx", "a12345678901234567890123", "z_______________________"} {
		if !label.Is(s) {
			t.Errorf("Is(%q) = false", s)
		}
	}
	for _, s := range noNames {
		if label.Is(s) {
			t.Errorf("Is(%q) = true", s)
		}
	}
	for r := rune(128); r < 0x11000; r++ {
		if label.Is(string(r)) || label.Is("a"+string(r)) {
			t.Fatalf("Is of the rune %d", r)
		}
	}
}

// P19.1: New, Define, Use

func TestNewHasNoNames(t *testing.T) {
	x := label.New()
	if l := x.Names(); len(l) != 0 {
		t.Errorf("Names() = %q", l)
	}
	checkResolve(t, x, nil, "", api.OK)
	for _, name := range append([]string{"a", "new", "r0"}, noNames...) {
		if place, ok := x.Place(name); place != 0 || ok {
			t.Errorf("Place(%q) = %d, %t", name, place, ok)
		}
	}
}

func TestDefineOfEachPlace(t *testing.T) {
	all := made(t)
	for k, place := range ends {
		x := made(t)
		x.define(t, "a", place)
		x.check(t)
		if got, ok := x.table.Place("a"); got != place || !ok {
			t.Errorf("Place = %d, %t, want %d", got, ok, place)
		}
		all.define(t, "n"+strconv.Itoa(k), place)
		all.check(t)
	}
}

func TestDefineOfWhatIsNoName(t *testing.T) {
	x := made(t)
	for range 2 {
		for _, name := range noNames {
			if e := x.table.Define(name, 5); e != api.ErrName {
				t.Fatalf("Define(%q) = %v, want %v", name, e, api.ErrName)
			}
			x.check(t, noNames...)
		}
		// Just as long as a name may be, and again.
		x.use(t, "a", 1)
		x.define(t, "abcdefghijklmnopqrstuvwx", 4)
		x.define(t, "a", 3)
	}
	x.check(t, noNames...)
}

func TestDefineTwice(t *testing.T) {
	for _, place := range ends {
		x := made(t)
		x.define(t, "a", place)
		for _, other := range append([]int{place}, ends...) {
			if e := x.table.Define("a", other); e != api.ErrTwice {
				t.Fatalf("behind %d Define of %d = %v, want %v", place, other, e, api.ErrTwice)
			}
			if got, ok := x.table.Place("a"); got != place || !ok {
				t.Fatalf("behind %d and %d Place = %d, %t", place, other, got, ok)
			}
		}
		x.check(t)
		// Of another name, one that begins alike too, it is not twice.
		x.define(t, "b", place)
		x.define(t, "aa", place)
		x.define(t, "a_", place+1)
		x.use(t, "a", 1)
		x.check(t)
	}
}

func TestATableWhoseNamesWereRefusedTwiceTakesOthers(t *testing.T) {
	x := made(t)
	for k, name := range chart.Names(60) {
		x.define(t, name, k)
		x.define(t, name, k)
		x.define(t, name, k+1)
		x.define(t, name+"$", k)
		x.use(t, name, -k)
	}
	x.check(t)
}

func TestUseOfWhatIsNoName(t *testing.T) {
	x := made(t)
	for _, name := range noNames {
		if e := x.table.Use(name, 5); e != api.ErrName {
			t.Fatalf("Use(%q) = %v, want %v", name, e, api.ErrName)
		}
		x.check(t, noNames...)
	}
	x.define(t, "a", 9)
	x.use(t, "a", 8)
	for _, name := range noNames {
		x.use(t, name, 5)
	}
	x.use(t, "a", 7)
	x.check(t, noNames...)
	checkResolve(t, x.table, []api.Fix{{At: 8, To: 9}, {At: 7, To: 9}}, "", api.OK)
}

func TestUseOfEachPlace(t *testing.T) {
	x := made(t)
	x.define(t, "a", -4)
	var want []api.Fix
	for _, at := range ends {
		x.use(t, "a", at)
		want = append(want, api.Fix{At: at, To: -4})
		checkResolve(t, x.table, want, "", api.OK)
	}
	x.check(t)
}

func TestUsesStandInOrder(t *testing.T) {
	x := made(t)
	x.define(t, "b", 20)
	x.define(t, "c", 30)
	x.define(t, "a", 10)
	// Neither by names, nor by places; one name more than once, one place more than once, and both.
	for _, u := range []telling{{true, "c", 5}, {true, "a", 9}, {true, "c", 1}, {true, "b", 5}, {true, "a", 5}, {true, "a", 5}, {true, "c", 5}, {true, "b", 0}} {
		x.tell(t, u)
		x.check(t)
	}
	want := []api.Fix{{At: 5, To: 30}, {At: 9, To: 10}, {At: 1, To: 30}, {At: 5, To: 20}, {At: 5, To: 10}, {At: 5, To: 10}, {At: 5, To: 30}, {At: 0, To: 20}}
	checkResolve(t, x.table, want, "", api.OK)
}

// P19.2: Place, Names

func TestAUseGivesNoPlace(t *testing.T) {
	x := made(t)
	x.use(t, "a", 3)
	x.use(t, "b", 0)
	if place, ok := x.table.Place("a"); place != 0 || ok {
		t.Errorf("Place = %d, %t", place, ok)
	}
	if l := x.table.Names(); len(l) != 0 {
		t.Errorf("Names() = %q", l)
	}
	x.check(t)
	x.define(t, "b", 8)
	x.check(t)
	if l := x.table.Names(); !slices.Equal(l, []string{"b"}) {
		t.Errorf("Names() = %q", l)
	}
}

func TestPlaceOfOtherNames(t *testing.T) {
	x := made(t)
	x.define(t, "loop", 3)
	x.define(t, "loop_2", 4)
	for _, name := range append([]string{"loo", "loop_", "loopp", "Loop", "loop ", " loop", "loop\x00", "pool", "l", "loop_1", "loop_22"}, noNames...) {
		if place, ok := x.table.Place(name); place != 0 || ok {
			t.Errorf("Place(%q) = %d, %t", name, place, ok)
		}
	}
	x.check(t, noNames...)
}

func TestNamesRiseByteByByte(t *testing.T) {
	// Digits stand ahead of the underline, that ahead of letters; a shorter one ahead of those that go on from it, not of all.
	want := []string{"a", "a0", "a00", "a09", "a0_", "a0a", "a10", "a2", "a9", "a_", "a_0", "a__", "a_a", "aa", "aaa", "aaaaaaaaaaaaaaaaaaaaaaaa", "ab", "az", "b", "b_", "ba", "z", "z0", "z_", "zz", "zzzzzzzzzzzzzzzzzzzzzzzz"}
	orders := [][]string{want, slices.Clone(want), nil, nil}
	slices.Reverse(orders[1])
	for k := range want {
		orders[2] = append(orders[2], want[k*7%len(want)])
		orders[3] = append(orders[3], want[(k*11+5)%len(want)])
	}
	for _, order := range orders {
		x := made(t)
		for k, name := range order {
			x.define(t, name, k)
			x.use(t, want[k], k)
		}
		// In the order of a map they would stand otherwise, sooner or later.
		for range 20 {
			if got := x.table.Names(); !slices.Equal(got, want) {
				t.Fatalf("Names() = %q, want %q", got, want)
			}
		}
		x.check(t)
	}
}

func TestNamesWithoutAPattern(t *testing.T) {
	for _, n := range []int{1, 2, 3, 8, 9, 50, 300} {
		x := made(t)
		for k, name := range chart.Names(n) {
			x.define(t, name, k*k-50)
		}
		x.check(t)
	}
}

func TestNamesOfAllLettersAndDigits(t *testing.T) {
	x := made(t)
	for _, c := range []byte(chart.Letters) {
		for _, d := range []byte("_" + chart.Digits + chart.Letters) {
			x.define(t, string([]byte{c, d}), int(c)*256+int(d))
		}
	}
	l := x.table.Names()
	if len(l) != 26*37 || !slices.IsSorted(l) {
		t.Errorf("%d names", len(l))
	}
	for _, name := range l {
		if place, ok := x.table.Place(name); place != int(name[0])*256+int(name[1]) || !ok {
			t.Errorf("Place(%q) = %d, %t", name, place, ok)
		}
	}
}

// P19.3: Resolve

func TestResolveTellsTheFirstUseWhoseNameHasNoPlace(t *testing.T) {
	x := made(t)
	x.define(t, "b", 2)
	for _, u := range []telling{{true, "b", 10}, {true, "z", 11}, {true, "a", 12}, {true, "z", 13}, {true, "c", 14}, {true, "b", 15}} {
		x.tell(t, u)
		x.check(t)
	}
	checkResolve(t, x.table, nil, "z", api.ErrNone)
	x.define(t, "c", 3)
	checkResolve(t, x.table, nil, "z", api.ErrNone)
	x.define(t, "z", 0)
	checkResolve(t, x.table, nil, "a", api.ErrNone)
	x.define(t, "a", -1)
	checkResolve(t, x.table, []api.Fix{{At: 10, To: 2}, {At: 11}, {At: 12, To: -1}, {At: 13}, {At: 14, To: 3}, {At: 15, To: 2}}, "", api.OK)
	x.use(t, "none", 16)
	checkResolve(t, x.table, nil, "none", api.ErrNone)
	x.check(t)
}

// Each of a row of names lacks a place by itself, and each two.
func TestResolveWithoutEachNameAndEachTwo(t *testing.T) {
	row := []string{"m", "b", "q", "a", "z", "m", "a", "k"}
	for _, first := range row {
		for _, second := range row {
			x := made(t)
			for at, name := range row {
				x.use(t, name, at)
			}
			for place, name := range []string{"z", "q", "m", "k", "b", "a"} {
				if name != first && name != second {
					x.define(t, name, place)
				}
			}
			x.check(t)
		}
	}
}

func TestResolveOfNoUses(t *testing.T) {
	x := made(t)
	checkResolve(t, x.table, nil, "", api.OK)
	for k, name := range chart.Names(20) {
		x.define(t, name, k+1)
		checkResolve(t, x.table, nil, "", api.OK)
	}
	x.use(t, "_", 1)
	checkResolve(t, x.table, nil, "", api.OK)
}

func TestResolveTellsTheWholeName(t *testing.T) {
	for n := 1; n <= chart.Longest; n++ {
		x := made(t)
		name := ("l" + strings.Repeat("_0z", 8))[:n]
		x.use(t, name, 1)
		checkResolve(t, x.table, nil, name, api.ErrNone)
		x.define(t, name, 2)
		checkResolve(t, x.table, []api.Fix{{At: 1, To: 2}}, "", api.OK)
	}
}

func TestNilAndWhatNewDidNotMake(t *testing.T) {
	checkNone(t, nil)
	checkNone(t, new(label.Table))
	checkNone(t, &label.Table{})
	var own label.Table
	checkNone(t, &own)
	if e := label.New().Define("a", 1); e != api.OK {
		t.Errorf("Define = %v", e)
	}
	checkNone(t, &own)
}

func TestACopyIsNoneThatNewMade(t *testing.T) {
	x := made(t)
	x.define(t, "a", 1)
	x.use(t, "a", 2)
	c := *x.table
	checkNone(t, &c)
	x.check(t)
	x.define(t, "b", 3)
	checkNone(t, &c)
	other := label.New()
	*other = *x.table
	checkNone(t, other)
	x.check(t)
	*x.table = label.Table{}
	checkNone(t, x.table)
}

// P19.4: ahead or behind

// orders are all those of a row, each once.
func orders(row []telling) [][]telling {
	if len(row) == 0 {
		return [][]telling{nil}
	}
	var all [][]telling
	for k, x := range row {
		rest := slices.Delete(slices.Clone(row), k, k+1)
		for _, l := range orders(rest) {
			all = append(all, append([]telling{x}, l...))
		}
	}
	return all
}

func TestUsesAheadOfPlacesAndBehindThem(t *testing.T) {
	row := []telling{{false, "a", 7}, {false, "b", 8}, {false, "c", 9}, {true, "a", 3}, {true, "b", 4}, {true, "a", 5}, {true, "b", 6}}
	answers := map[string][]api.Fix{}
	for _, order := range orders(row) {
		x, uses := made(t), ""
		for _, y := range order {
			x.tell(t, y)
			if y.used {
				uses += " " + y.name + strconv.Itoa(y.place)
			}
		}
		x.check(t)
		fixes, _, e := x.table.Resolve()
		if e != api.OK || len(fixes) != 4 {
			t.Fatalf("of %v Resolve = %v, %v", order, fixes, e)
		}
		// What it answers hangs on the uses' order alone.
		if had, ok := answers[uses]; ok && !slices.Equal(fixes, had) {
			t.Fatalf("of %v Resolve = %v, want %v", order, fixes, had)
		}
		answers[uses] = fixes
	}
	if len(answers) != 24 {
		t.Errorf("%d orders of uses", len(answers))
	}
}

func TestAllRowsOfAFewTellings(t *testing.T) {
	var each []telling
	for _, name := range []string{"a", "b", "ab", "B"} {
		each = append(each, telling{false, name, 0}, telling{false, name, 6}, telling{true, name, 1})
	}
	var tell func(row []telling, left int)
	tell = func(row []telling, left int) {
		x := made(t)
		for _, y := range row {
			x.tell(t, y)
		}
		x.check(t, "a", "b", "ab", "B")
		for _, y := range each {
			if left > 0 {
				tell(append(slices.Clip(row), y), left-1)
			}
		}
	}
	tell(nil, 4)
}

func TestALongRowOfTellings(t *testing.T) {
	some, x := chart.Names(40), made(t)
	chance := uint32(3)
	next := func(below int) int {
		chance = chance*1103515245 + 12345
		return int(chance>>8) % below
	}
	oks, nones := 0, 0
	for k := range 1500 {
		// Few names at first, and more of them later.
		name := some[next(1+k/40)]
		if next(20) == 0 {
			name = noNames[next(len(noNames))]
		}
		x.tell(t, telling{next(3) > 0, name, ends[next(len(ends))]})
		x.check(t)
		if _, _, e := x.table.Resolve(); e == api.OK {
			oks++
		} else {
			nones++
		}
	}
	if oks < 100 || nones < 100 {
		t.Errorf("%d times all names have a place, %d times they have not", oks, nones)
	}
}

// What holds of all calls.

func TestWhatIsAskedChangesNothing(t *testing.T) {
	x := made(t)
	for k, name := range chart.Names(30) {
		x.use(t, name, k)
		if k%3 > 0 {
			x.define(t, name, -k)
		}
		for range 3 {
			// Is and Place of names that are not told tell a table nothing.
			label.Is("other")
			x.check(t, "other", "b")
		}
	}
}

func TestAnswersAreNewMemory(t *testing.T) {
	x := made(t)
	for k, name := range chart.Names(9) {
		x.use(t, name, k)
		x.define(t, name, k*2)
	}
	for range 3 {
		l := x.table.Names()
		fixes, _, _ := x.table.Resolve()
		clear(l[:cap(l)])
		clear(fixes[:cap(fixes)])
		_ = append(l[:0], "x", "y", "z")
		_ = append(fixes[:0], api.Fix{At: 1, To: 1})
		x.check(t)
	}
	// An answer stays as it was, too, whatever is told later.
	l, was := x.table.Names(), x.took.names()
	fixes, _, _ := x.table.Resolve()
	wanted, _, _ := x.took.resolve()
	x.define(t, "a", 0)
	x.use(t, "a", 0)
	if !slices.Equal(l, was) || !slices.Equal(fixes, wanted) {
		t.Errorf("answers are now %q and %v", l, fixes)
	}
	x.check(t)
}

func TestTwoTablesKnowNothingOfOneAnother(t *testing.T) {
	x, y := made(t), made(t)
	x.define(t, "a", 1)
	y.use(t, "a", 2)
	y.check(t)
	x.use(t, "b", 3)
	y.define(t, "b", 4)
	x.check(t)
	y.check(t)
	checkResolve(t, x.table, nil, "b", api.ErrNone)
	checkResolve(t, y.table, nil, "a", api.ErrNone)
	y.define(t, "a", 5)
	x.check(t)
	made(t).check(t, "a", "b")
}

// Names that are pieces of one text, or that are put together, are the same.
func TestNamesAreToldByTheirBytes(t *testing.T) {
	x := made(t)
	text := strings.Repeat("abc_9", 1000)
	x.use(t, text[5:8], 1)
	x.define(t, "ab"+text[2:3], 6)
	x.use(t, text[10:13], 2)
	b := []byte("abc")
	x.use(t, string(b), 3)
	clear(b)
	x.check(t)
	checkResolve(t, x.table, []api.Fix{{At: 1, To: 6}, {At: 2, To: 6}, {At: 3, To: 6}}, "", api.OK)
}

func TestManyNamesAndUses(t *testing.T) {
	const n, times = 200000, 1000000
	x := label.New()
	place := map[string]int{}
	for k := range times {
		name := "n" + strconv.Itoa(k%n*7919%n)
		if e := x.Use(name, k); e != api.OK {
			t.Fatalf("Use = %v", e)
		}
		if k >= times-n {
			place[name] = k * 3
			if e := x.Define(name, k*3); e != api.OK {
				t.Fatalf("Define = %v", e)
			}
		}
	}
	if l := x.Names(); !slices.Equal(l, slices.Sorted(maps.Keys(place))) {
		t.Errorf("%d names", len(l))
	}
	fixes, _, e := x.Resolve()
	if e != api.OK || len(fixes) != times {
		t.Fatalf("%d fixes, %v", len(fixes), e)
	}
	for k, f := range fixes {
		if want := (api.Fix{At: k, To: place["n"+strconv.Itoa(k%n*7919%n)]}); f != want {
			t.Fatalf("fix %d is %v, want %v", k, f, want)
		}
	}
}
