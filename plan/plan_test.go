package plan_test

import (
	"math"
	"slices"
	"strconv"
	"strings"
	"testing"

	"astrolabe/api"
	"astrolabe/chart"
	"astrolabe/plan"
)

// sizes are how many words plans may have, first of all the ends.
var sizes = []int{0, limit, 1, 2, 3, 7, 255, 256, 257, 1023, 1024, 1025, limit - 1}

// noCounts are numbers below 1, some of which would be counts when cut to fewer bits.
var noCounts = []int{0, -1, -2, -3, -255, -256, -limit, -limit + 1, -65535, -65536, -1 << 31, -1<<31 + 1, -1 << 32, -1<<32 + 1, -1<<32 + 3, math.MinInt, math.MinInt + 1, math.MinInt + 3}

// farTooMany are more words than any plan has, some of which would be few when cut to fewer bits.
var farTooMany = []int{limit + 1, limit + 2, 2 * limit, 2*limit + 1, 4096, 65535, 65536, 65537, 1<<31 - 1, 1 << 31, 1<<32 - 1, 1 << 32, 1<<32 + 1, 1<<62 + 1, math.MaxInt - limit, math.MaxInt - 1, math.MaxInt}

func TestExample(t *testing.T) {
	p, e := plan.New(5)
	if p == nil || e != api.OK {
		t.Fatalf("New(5) = %v, %v", p, e)
	}
	if at, e := p.Alloc("a", 2, true); at != 0 || e != api.OK {
		t.Errorf("Alloc = %d, %v, want 0", at, e)
	}
	if at, e := p.Alloc("b", 3, false); at != 2 || e != api.OK {
		t.Errorf("Alloc = %d, %v, want 2", at, e)
	}
	if r, off, ok := p.At(4); r != (api.Region{Name: "b", At: 2, Len: 3}) || off != 2 || !ok {
		t.Errorf("At(4) = %v, %d, %t, want b and 2", r, off, ok)
	}
	if r, off, ok := p.At(1); r != (api.Region{Name: "a", Len: 2, Secret: true}) || off != 1 || !ok {
		t.Errorf("At(1) = %v, %d, %t, want a and 1", r, off, ok)
	}
}

// P20.1: New, Alloc

func TestNewHasNoRegions(t *testing.T) {
	for _, size := range sizes {
		x := made(t, size)
		x.check(t, append([]string{"a"}, noNames...)...)
		x.checkAt(t, 0, api.Region{}, 0, false)
	}
}

func TestNewOfEachSize(t *testing.T) {
	for size := range limit + 1 {
		x := made(t, size)
		x.refuse(t, ask{"a", size + 1, false}, api.ErrFull)
		if size > 0 {
			x.alloc(t, ask{"a", size, true})
		}
		x.refuse(t, ask{"b", 1, false}, api.ErrFull)
		if got := x.plan.Used(); got != size {
			t.Fatalf("of %d words Used() = %d", size, got)
		}
	}
}

func TestNewOfWhatIsNoSize(t *testing.T) {
	for _, size := range append(farTooMany, noCounts[1:]...) {
		if p, e := plan.New(size); p != nil || e != api.ErrArg {
			t.Errorf("New(%d) = %v, %v, want none, %v", size, p, e, api.ErrArg)
		}
	}
}

func TestAllocOfWhatIsNoName(t *testing.T) {
	for _, size := range []int{0, 4, limit} {
		x := made(t, size)
		for range 2 {
			for _, name := range noNames {
				// Whether what else is asked may be or not, and whether it is secret or not.
				for _, n := range []int{1, 2, 3, 0, -1, math.MinInt, size, size + 1, math.MaxInt} {
					x.refuse(t, ask{name, n, true}, api.ErrName)
					x.refuse(t, ask{name, n, false}, api.ErrName)
				}
			}
			x.check(t, noNames...)
			x.alloc(t, ask{"a", 1, true})
			x.alloc(t, ask{"abcdefghijklmnopqrstuvwx", 2, false})
		}
		x.check(t, noNames...)
	}
}

func TestAllocOfANameThatARegionHas(t *testing.T) {
	for _, n := range []int{1, 2, 5, 10} {
		x := made(t, 10)
		x.alloc(t, ask{"a", n, true})
		for _, other := range append([]int{n, 1, 2, 10 - n, 11 - n, 10, 11}, append(noCounts, farTooMany...)...) {
			x.refuse(t, ask{"a", other, true}, api.ErrTwice)
			x.refuse(t, ask{"a", other, false}, api.ErrTwice)
		}
		x.check(t)
		// Another name, one that begins alike too, is not there twice.
		for _, name := range []string{"b", "aa", "a_", "a0"} {
			x.alloc(t, ask{name, 1, false})
			x.check(t)
			x.refuse(t, ask{"a", 1, false}, api.ErrTwice)
		}
	}
}

func TestAllocOfEachOfManyNamesTwice(t *testing.T) {
	x := made(t, limit)
	some := chart.Names(300)
	for k, name := range some {
		x.alloc(t, ask{name, 1 + k%6, k%2 == 0})
		for _, had := range some[:k+1] {
			x.refuse(t, ask{had, 1, k%2 > 0}, api.ErrTwice)
		}
	}
	x.check(t, some...)
}

func TestAllocOfTooFewWords(t *testing.T) {
	for _, size := range sizes {
		x := made(t, size)
		// Both while words are left and when none is.
		for k := range 3 {
			for _, n := range noCounts {
				x.refuse(t, ask{"n", n, true}, api.ErrArg)
				x.refuse(t, ask{"n", n, false}, api.ErrArg)
			}
			x.check(t, "n")
			x.alloc(t, ask{"a" + strconv.Itoa(k), max(1, size/2), true})
		}
		x.alloc(t, ask{"n", 1, false})
		x.check(t)
	}
}

func TestAllocOfAsManyAsAreLeftAndOfOneMore(t *testing.T) {
	for _, size := range sizes {
		for _, used := range sizes {
			if used > size {
				continue
			}
			x := made(t, size)
			if used > 0 {
				x.alloc(t, ask{"used", used, true})
			}
			left := size - used
			x.refuse(t, ask{"left", left + 1, false}, api.ErrFull)
			x.refuse(t, ask{"left", left + 2, true}, api.ErrFull)
			if left > 0 {
				x.alloc(t, ask{"left", left, false})
			}
			x.refuse(t, ask{"more", 1, false}, api.ErrFull)
			x.check(t, "more", "left")
		}
	}
}

func TestAllocOfFarTooMany(t *testing.T) {
	for _, size := range sizes {
		x := made(t, size)
		for k := range 3 {
			for _, n := range farTooMany {
				x.refuse(t, ask{"n", n, true}, api.ErrFull)
			}
			x.check(t, "n")
			x.alloc(t, ask{"a" + strconv.Itoa(k), max(1, size/3), false})
		}
	}
}

func TestWhatWasRefusedMayBeTakenLater(t *testing.T) {
	x := made(t, 12)
	for _, name := range []string{"m", "b", "z", "a"} {
		x.refuse(t, ask{name, 13, true}, api.ErrFull)
		x.refuse(t, ask{name, 0, true}, api.ErrArg)
		x.refuse(t, ask{name + "$", 3, true}, api.ErrName)
		x.check(t, name)
		x.alloc(t, ask{name, 3, false})
		x.check(t)
	}
	x.refuse(t, ask{"c", 1, false}, api.ErrFull)
}

func TestEachRegionBeginsBehindAllOthers(t *testing.T) {
	x := made(t, limit)
	at := 0
	for n := range 63 {
		got, e := x.plan.Alloc("r"+strconv.Itoa(n*n), n+1, n%3 == 0)
		if got != at || e != api.OK {
			t.Fatalf("Alloc of %d words = %d, %v, want %d", n+1, got, e, at)
		}
		at += n + 1
		if used := x.plan.Used(); used != at {
			t.Fatalf("Used() = %d, want %d", used, at)
		}
	}
}

// P20.2: Find, At

func TestFindOfNamesThatNoRegionHas(t *testing.T) {
	x := made(t, 20)
	x.alloc(t, ask{"loop", 3, true})
	x.alloc(t, ask{"loop_2", 4, false})
	x.refuse(t, ask{"long", 14, true}, api.ErrFull)
	others := append([]string{"loo", "loop_", "loopp", "Loop", "loop ", " loop", "loop\x00", "pool", "l", "loop_1", "loop_22", "loop_3", "long", "a", "zzz"}, noNames...)
	for _, name := range others {
		if r, ok := x.plan.Find(name); r != (api.Region{}) || ok {
			t.Errorf("Find(%q) = %v, %t, want none", name, r, ok)
		}
	}
	x.check(t, others...)
}

func TestFindOfNamesInAnyOrder(t *testing.T) {
	// Digits stand ahead of the underline, that ahead of letters; a shorter one ahead of those that go on from it.
	row := []string{"a", "a0", "a00", "a09", "a0_", "a0a", "a10", "a2", "a9", "a_", "a_0", "a__", "a_a", "aa", "aaa", "aaaaaaaaaaaaaaaaaaaaaaaa", "ab", "az", "b", "b_", "ba", "z", "z0", "z_", "zz", "zzzzzzzzzzzzzzzzzzzzzzzz"}
	for _, by := range []int{1, 25, 7, 11} {
		x := made(t, 100)
		for k := range row {
			x.alloc(t, ask{row[k*by%26], 1 + k%4, k%3 == 0})
			x.check(t, row...)
		}
	}
}

func TestAtTheFirstAndTheLastAddressOfEachRegion(t *testing.T) {
	for _, lengths := range [][]int{{1}, {2}, {1, 1}, {1, 2}, {2, 1}, {3, 1, 4, 1, 5}, {1, 1, 1, 1, 1, 1, 1}, {100, 1, 200, 1, 2}, {1000, 1048}, {2047, 1}, {1, 2047}, {2048}} {
		x := made(t, limit)
		at := 0
		for k, n := range lengths {
			x.alloc(t, ask{"r" + strconv.Itoa(k), n, k%2 > 0})
			// Behind it there is none yet.
			x.checkAt(t, at+n, api.Region{}, 0, false)
			at += n
		}
		at = 0
		for k, n := range lengths {
			r := api.Region{Name: "r" + strconv.Itoa(k), At: at, Len: n, Secret: k%2 > 0}
			x.checkAt(t, at, r, 0, true)
			x.checkAt(t, at+n-1, r, n-1, true)
			x.checkAt(t, at+n/2, r, n/2, true)
			at += n
		}
		x.check(t)
	}
}

func TestAtAddressesThatNoRegionHas(t *testing.T) {
	for _, size := range []int{0, 1, 8, 256, limit} {
		x := made(t, size)
		for k := range 3 {
			for _, addr := range beyond(x.plan.Used()) {
				x.checkAt(t, addr, api.Region{}, 0, false)
			}
			x.alloc(t, ask{"a" + strconv.Itoa(k), max(1, size/4), true})
		}
		// Words that are left have no region, up to the plan's last one.
		for addr := x.plan.Used(); addr <= size; addr++ {
			x.checkAt(t, addr, api.Region{}, 0, false)
		}
	}
}

// P20.3: Used, Regions, Secret

func TestRegionsStandInTheOrderOfTheirAsking(t *testing.T) {
	x := made(t, 12)
	x.alloc(t, ask{"m", 3, false})
	x.alloc(t, ask{"z", 1, true})
	x.alloc(t, ask{"a", 5, true})
	x.alloc(t, ask{"b", 2, false})
	want := []api.Region{{Name: "m", Len: 3}, {Name: "z", At: 3, Len: 1, Secret: true}, {Name: "a", At: 4, Len: 5, Secret: true}, {Name: "b", At: 9, Len: 2}}
	if got := x.plan.Regions(); !slices.Equal(got, want) {
		t.Errorf("Regions() = %v, want %v", got, want)
	}
	secret := []bool{false, false, false, true, true, true, true, true, true, false, false}
	if got := x.plan.Secret(); !slices.Equal(got, secret) {
		t.Errorf("Secret() = %v, want %v", got, secret)
	}
	if got := x.plan.Used(); got != 11 {
		t.Errorf("Used() = %d, want 11", got)
	}
	x.check(t)
}

func TestSecretOfEachWord(t *testing.T) {
	// Each way in which seven regions of unlike lengths are secret or not.
	for set := range 1 << 7 {
		x := made(t, 40)
		for k := range 7 {
			x.alloc(t, ask{"r" + strconv.Itoa(k), 1 + k*3%7, set>>k&1 == 1})
		}
		x.check(t)
	}
}

func TestAsManyRegionsAsWords(t *testing.T) {
	x := made(t, limit)
	some := chart.Names(limit + 1)
	for k, name := range some {
		x.alloc(t, ask{name, 1, k%5 == 0})
	}
	if l := x.plan.Regions(); len(l) != limit {
		t.Errorf("%d regions", len(l))
	}
	x.check(t, some...)
}

func TestNilAndWhatNewDidNotMake(t *testing.T) {
	checkNone(t, nil)
	checkNone(t, new(plan.Plan))
	checkNone(t, &plan.Plan{})
	var own plan.Plan
	checkNone(t, &own)
	made(t, 5).alloc(t, ask{"a", 1, true})
	checkNone(t, &own)
}

func TestACopyIsNoneThatNewMade(t *testing.T) {
	x := made(t, 9)
	x.alloc(t, ask{"a", 2, true})
	c := *x.plan
	checkNone(t, &c)
	x.alloc(t, ask{"b", 3, false})
	x.check(t)
	checkNone(t, &c)
	other := made(t, 9).plan
	*other = *x.plan
	checkNone(t, other)
	x.check(t)
	*x.plan = plan.Plan{}
	checkNone(t, x.plan)
}

// P20.4: side by side

func TestEachAddressThatIsUsedIsInJustOneRegion(t *testing.T) {
	for seed := range 40 {
		x := made(t, sizes[seed%len(sizes)])
		askManyTimes(t, x, seed, 120)
		times := make([]int, x.plan.Used())
		for _, r := range x.plan.Regions() {
			if got, ok := x.plan.Find(r.Name); got != r || !ok {
				t.Fatalf("Find(%q) = %v, %t, want %v", r.Name, got, ok, r)
			}
			for off := range r.Len {
				times[r.At+off]++
				x.checkAt(t, r.At+off, r, off, true)
			}
		}
		for addr, n := range times {
			if n != 1 {
				t.Fatalf("behind %v: %d regions have the address %d", x.took, n, addr)
			}
		}
		if len(times) > x.took.size {
			t.Fatalf("%d of %d words are used", len(times), x.took.size)
		}
	}
}

// askManyTimes asks a plan for regions without a pattern.
func askManyTimes(t *testing.T, x *pair, seed, times int) {
	t.Helper()
	chance := uint32(seed)
	next := func(below int) int {
		chance = chance*1103515245 + 12345
		return int(chance>>8) % below
	}
	some := chart.Names(60)
	for k := range times {
		name := some[next(len(some))]
		if next(20) == 0 {
			name = noNames[next(len(noNames))]
		}
		x.alloc(t, ask{name, next(2+x.took.size/16) - next(2), next(2) == 0})
		if k%10 == 0 {
			x.check(t, some...)
		}
	}
}

func TestALongRowOfAsks(t *testing.T) {
	for seed := range 12 {
		x := made(t, limit-seed)
		askManyTimes(t, x, 1000+seed, 150)
		x.check(t)
	}
}

func TestAllRowsOfAFewAsks(t *testing.T) {
	var each []ask
	for _, name := range []string{"a", "b", "ab", "B"} {
		for n := range 4 {
			each = append(each, ask{name, n, n%2 == len(name)%2})
		}
	}
	// A plan can't be asked back, so that each row is asked anew.
	var tell func(size int, row []ask, left int)
	tell = func(size int, row []ask, left int) {
		x := made(t, size)
		for _, y := range row {
			x.alloc(t, y)
		}
		x.check(t, "a", "b", "ab", "B")
		for _, y := range each {
			if left > 0 {
				tell(size, append(slices.Clip(row), y), left-1)
			}
		}
	}
	for size := range 8 {
		tell(size, nil, 3)
	}
}

// What holds of all calls.

func TestWhatIsAskedChangesNothing(t *testing.T) {
	x := made(t, 200)
	for k, name := range chart.Names(30) {
		x.alloc(t, ask{name, 1 + k%5, k%3 == 0})
		for range 3 {
			x.check(t, "other", "b")
		}
	}
}

func TestAnswersAreNewMemory(t *testing.T) {
	x := made(t, 100)
	for k, name := range chart.Names(9) {
		x.alloc(t, ask{name, k + 1, k%2 == 0})
	}
	for range 3 {
		regions, secret := x.plan.Regions(), x.plan.Secret()
		clear(regions[:cap(regions)])
		clear(secret[:cap(secret)])
		_ = append(regions[:0], api.Region{Name: "x", At: 1, Len: 1})
		x.check(t)
	}
	// An answer stays as it was, too, whatever is asked later.
	regions, secret := x.plan.Regions(), x.plan.Secret()
	_ = append(regions, api.Region{Name: "y"})
	x.alloc(t, ask{"late", 5, true})
	if l := x.took.regions(); !slices.Equal(regions, l[:9]) || !slices.Equal(secret, x.took.secret()[:45]) {
		t.Errorf("answers are now %v and %v", regions, secret)
	}
	x.check(t)
}

func TestTwoPlansKnowNothingOfOneAnother(t *testing.T) {
	x, y := made(t, 5), made(t, 9)
	x.alloc(t, ask{"a", 2, true})
	y.check(t, "a")
	y.alloc(t, ask{"b", 8, false})
	y.alloc(t, ask{"a", 1, false})
	x.check(t, "b")
	x.alloc(t, ask{"b", 3, true})
	x.check(t)
	y.check(t)
	made(t, 5).check(t, "a", "b")
}

// Names that are pieces of one text, or that are put together, are the same.
func TestNamesAreToldByTheirBytes(t *testing.T) {
	x := made(t, 10)
	text := strings.Repeat("abc_9", 1000)
	x.alloc(t, ask{text[5:8], 1, true})
	b := []byte("abc")
	x.refuse(t, ask{string(b), 1, true}, api.ErrTwice)
	b[0] = 'z'
	x.alloc(t, ask{string(b), 2, false})
	clear(b)
	x.refuse(t, ask{"ab" + text[2:3], 1, true}, api.ErrTwice)
	x.check(t, "abc_", "zb")
}
