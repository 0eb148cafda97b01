package ram_test

import (
	"slices"
	"testing"

	"astrolabe/api"
	"astrolabe/ram"
)

const (
	limit   = 2048 // how many words a memory has at most
	wordMin = -1 << 31
	wordMax = 1<<31 - 1
)

// lengths are such as memories may have, first of all the ends.
var lengths = []int{0, limit, 1, 2, 3, 7, 255, 256, 257, 1023, 1024, 1025, limit - 1}

// words are such as may stand in a memory; none is what a memory answers where it has none.
var words = []int32{wordMin, wordMin + 1, -65536, -2, -1, 1, 2, 255, 256, 65535, 65536, wordMax - 1, wordMax}

// store is one, at an address.
type store struct{ addr, x int32 }

// told is what was told of a memory: of which words it was made, and what was stored since.
type told struct {
	first  []int32
	stores []store
}

// word is the one of the last store at an address, or the one of which the memory was made.
func (h told) word(addr int) int32 {
	x := h.first[addr]
	for _, s := range h.stores {
		if int(s.addr) == addr {
			x = s.x
		}
	}
	return x
}

// all are the words at all addresses.
func (h told) all() []int32 {
	var l []int32
	for addr := range h.first {
		l = append(l, h.word(addr))
	}
	return l
}

// some are n words without a pattern; none is 0.
func some(n int) []int32 {
	l := make([]int32, n)
	x := uint32(1)
	for i := range l {
		x = x*1103515245 + 12345
		l[i] = int32(x | 1)
	}
	return l
}

// alike are n words that are all x.
func alike(n int, x int32) []int32 { return slices.Repeat([]int32{x}, n) }

// rising are n words, of which each is one more than its address.
func rising(n int) []int32 {
	var l []int32
	for addr := range n {
		l = append(l, int32(addr+1))
	}
	return l
}

// within are addresses of a memory of n words, at its ends and between.
func within(n int) []int32 {
	var l []int32
	for _, addr := range []int{0, 1, 2, n / 2, 255, 256, 1023, 1024, n - 2, n - 1} {
		if addr >= 0 && addr < n && !slices.Contains(l, int32(addr)) {
			l = append(l, int32(addr))
		}
	}
	return l
}

// beyond are addresses that a memory of n words has not: next to its own, the ends, and such as it has when cut to fewer bits, or counted from behind.
func beyond(n int) []int32 {
	l := []int32{-1, int32(n), wordMin, wordMax, int32(n + 1), int32(-n), int32(-n - 1), int32(2 * n), wordMin + 1, wordMax - 1}
	for bits := range 31 {
		l = append(l, 1<<bits, 1<<bits+1, -1<<bits, -1<<bits+1)
	}
	l = append(l, limit, limit+1, -limit, wordMin+limit-1, wordMin+limit, wordMax-limit)
	return slices.DeleteFunc(l, func(addr int32) bool { return addr >= 0 && int(addr) < n })
}

// made is a memory of words.
func made(t *testing.T, words []int32) *ram.Ram {
	t.Helper()
	m, e := ram.New(words)
	if m == nil || e != api.OK {
		t.Fatalf("New of %d words: %v, %v", len(words), m, e)
	}
	return m
}

// checkHas holds that a memory has just these words, by all calls that tell of them.
func checkHas(t *testing.T, m *ram.Ram, want []int32) {
	t.Helper()
	if got := m.Len(); got != len(want) {
		t.Fatalf("Len() = %d, want %d", got, len(want))
	}
	if got := m.All(); !slices.Equal(got, want) {
		t.Fatalf("All() = %.60v, want %.60v", got, want)
	}
	for addr, x := range want {
		if got, ok := m.Load(int32(addr)); got != x || !ok {
			t.Fatalf("of %d words Load(%d) = %d, %v, want %d", len(want), addr, got, ok, x)
		}
	}
	for _, addr := range beyond(len(want)) {
		if got, ok := m.Load(addr); got != 0 || ok {
			t.Fatalf("of %d words Load(%d) = %d, %v, want nothing", len(want), addr, got, ok)
		}
	}
}

// checkStored does a store that is to be done, and notes it.
func checkStored(t *testing.T, m *ram.Ram, h *told, addr, x int32) {
	t.Helper()
	if !m.Store(addr, x) {
		t.Fatalf("of %d words Store(%d, %d) = false", len(h.first), addr, x)
	}
	h.stores = append(h.stores, store{addr, x})
}

// checkRefused does a store that is not to be done.
func checkRefused(t *testing.T, m *ram.Ram, n int, addr, x int32) {
	t.Helper()
	if m.Store(addr, x) {
		t.Fatalf("of %d words Store(%d, %d) = true", n, addr, x)
	}
}

// checkNone holds that a memory is none: 0, false, nothing, by all calls.
func checkNone(t *testing.T, m *ram.Ram) {
	t.Helper()
	for range 2 {
		checkHas(t, m, nil)
		for _, addr := range beyond(0) {
			checkRefused(t, m, 0, addr, 5)
		}
	}
}

func TestExample(t *testing.T) {
	m := made(t, []int32{1, 2})
	if x, ok := m.Load(1); x != 2 || !ok {
		t.Errorf("Load(1) = %d, %v, want 2", x, ok)
	}
	if x, ok := m.Load(2); x != 0 || ok {
		t.Errorf("Load(2) = %d, %v, want nothing", x, ok)
	}
}

// P15.1: New, Len, All

func TestNewHasJustTheWords(t *testing.T) {
	for _, n := range lengths {
		for _, l := range [][]int32{some(n), rising(n), alike(n, 0), alike(n, -1), alike(n, wordMin), alike(n, wordMax)} {
			checkHas(t, made(t, l), l)
		}
	}
	checkHas(t, made(t, words), words)
}

func TestNewOfEachLength(t *testing.T) {
	l := some(limit)
	for n := range limit + 1 {
		m := made(t, l[:n])
		if m.Len() != n || !slices.Equal(m.All(), l[:n]) {
			t.Fatalf("New of %d words has %d: %.60v", n, m.Len(), m.All())
		}
	}
}

func TestNewOfNoWords(t *testing.T) {
	for _, l := range [][]int32{nil, {}, make([]int32, 0, 8), some(8)[8:]} {
		m := made(t, l)
		for _, addr := range beyond(0) {
			checkRefused(t, m, 0, addr, 1)
		}
		checkHas(t, m, nil)
	}
}

func TestNewOfTooManyWords(t *testing.T) {
	for _, n := range []int{limit + 1, limit + 2, 2*limit - 1, 2 * limit, 2*limit + 1, 16384, 32768, 65535, 65536, 65537, 65536 + limit, 1 << 20} {
		l := some(n)
		if m, e := ram.New(l); m != nil || e != api.ErrLong {
			t.Errorf("New of %d words: %v, %v, want none, %v", n, m, e, api.ErrLong)
		}
		if !slices.Equal(l, some(n)) {
			t.Errorf("New changed the %d words that it did not take", n)
		}
	}
}

func TestNewCountsJustTheWordsOfAList(t *testing.T) {
	long := some(3 * limit)
	for _, l := range [][]int32{long[:0], long[:3], long[:limit], long[limit : 2*limit], long[3*limit-1:]} {
		checkHas(t, made(t, l), l)
	}
	if m, e := ram.New(long[1 : limit+2]); m != nil || e != api.ErrLong {
		t.Errorf("New of %d words of a list: %v, %v, want none, %v", limit+1, m, e, api.ErrLong)
	}
}

// P15.2: Load, Store

func TestStoreAtTheAddressesThatThereAre(t *testing.T) {
	for _, n := range lengths {
		for _, addr := range within(n) {
			h := told{first: some(n)}
			m := made(t, h.first)
			for _, x := range append([]int32{0}, words...) {
				checkStored(t, m, &h, addr, x)
				if got, ok := m.Load(addr); got != x || !ok {
					t.Fatalf("of %d words Load(%d) = %d, %v, want %d", n, addr, got, ok, x)
				}
			}
			checkHas(t, m, h.all())
		}
	}
}

func TestStoreBeyondDoesNothing(t *testing.T) {
	for _, n := range lengths {
		l := some(n)
		m := made(t, l)
		for _, addr := range beyond(n) {
			for _, x := range []int32{0, 1, -1, wordMin, wordMax} {
				checkRefused(t, m, n, addr, x)
			}
		}
		checkHas(t, m, l)
	}
}

func TestLoadBeyondTellsNothingOfWhatIsStored(t *testing.T) {
	for _, n := range lengths {
		h := told{first: alike(n, 7)}
		m := made(t, h.first)
		for _, addr := range within(n) {
			checkStored(t, m, &h, addr, -7)
		}
		for _, addr := range beyond(n) {
			if x, ok := m.Load(addr); x != 0 || ok {
				t.Errorf("of %d words Load(%d) = %d, %v, want nothing", n, addr, x, ok)
			}
		}
	}
}

func TestNilAndWhatNewDidNotMake(t *testing.T) {
	checkNone(t, nil)
	checkNone(t, new(ram.Ram))
	checkNone(t, &ram.Ram{})
	var own ram.Ram
	checkNone(t, &own)
	_, _ = ram.New([]int32{1, 2})
	checkNone(t, &own)
}

func TestACopyIsNoneThatNewMade(t *testing.T) {
	m := made(t, []int32{1, 2})
	c := *m
	checkNone(t, &c)
	checkHas(t, m, []int32{1, 2})
	m.Store(0, 3)
	checkNone(t, &c)
	*m = ram.Ram{}
	checkNone(t, m)
}

// P15.3: kept

func TestAllOthersStay(t *testing.T) {
	const n = 9
	for at := range int32(n) {
		h := told{first: rising(n)}
		m := made(t, h.first)
		for _, x := range []int32{-5, -5, 0, wordMax, at + 1, at + 1, wordMin, at} {
			checkStored(t, m, &h, at, x)
			checkHas(t, m, h.all())
		}
	}
}

func TestStoresAtAllAddressesInAnyOrder(t *testing.T) {
	for _, n := range []int{1, 2, 3, 255, 256, 257, limit - 1, limit} {
		// What has no divisor in common with n reaches each address once, in an order of its own.
		for _, by := range []int{1, n - 1, 1021, 1999} {
			want := some(n)
			m := made(t, want)
			for i := range n {
				addr := (5 + i*by) % n
				want[addr] = int32(-1000000*by - i)
				if !m.Store(int32(addr), want[addr]) {
					t.Fatalf("of %d words Store(%d) = false", n, addr)
				}
			}
			checkHas(t, m, want)
		}
	}
}

func TestAllRowsOfAFewStores(t *testing.T) {
	const n, most = 3, 4
	var each []store
	for addr := range int32(n + 2) {
		each = append(each, store{addr - 1, 5}, store{addr - 1, 6})
	}
	rows := [][]store{nil}
	for range most {
		var next [][]store
		for _, row := range rows {
			for _, s := range each {
				next = append(next, append(slices.Clone(row), s))
			}
		}
		rows = next
		for _, row := range rows {
			checkRow(t, n, row)
		}
	}
}

// checkRow does a row of stores on a memory of n words, some of them at addresses that it has not.
func checkRow(t *testing.T, n int, row []store) {
	t.Helper()
	h := told{first: alike(n, 5)}
	m := made(t, h.first)
	for _, s := range row {
		if s.addr >= 0 && int(s.addr) < n {
			checkStored(t, m, &h, s.addr, s.x)
		} else {
			checkRefused(t, m, n, s.addr, s.x)
		}
	}
	if got, want := m.All(), h.all(); !slices.Equal(got, want) {
		t.Fatalf("behind %v: %v, want %v", row, got, want)
	}
}

func TestALongRowOfStores(t *testing.T) {
	for _, n := range []int{5, 64} {
		h := told{first: some(n)}
		m := made(t, h.first)
		for i, x := range some(300) {
			addr := int32((uint32(x) >> 8) % uint32(n+4))
			if int(addr) < n {
				checkStored(t, m, &h, addr, x)
			} else {
				checkRefused(t, m, n, addr, x)
			}
			if got := m.All(); !slices.Equal(got, h.all()) {
				t.Fatalf("behind store %d: %v, want %v", i, got, h.all())
			}
		}
		checkHas(t, m, h.all())
	}
}

func TestWhatIsAskedChangesNothing(t *testing.T) {
	h := told{first: some(40)}
	m := made(t, h.first)
	checkStored(t, m, &h, 39, 0)
	for range 3 {
		checkHas(t, m, h.all())
	}
}

// Memory of its own

func TestAMemoryKeepsNoListThatItIsMadeOf(t *testing.T) {
	for _, n := range []int{1, 3, 1024, limit} {
		long := some(n + 9)
		l := long[:n]
		m := made(t, l)
		for i := range long {
			long[i] = -1
		}
		checkHas(t, m, some(n))
		for addr := range int32(n) {
			m.Store(addr, 4)
		}
		if !slices.Equal(long, alike(n+9, -1)) {
			t.Fatalf("stores in a memory of %d words changed the list of which it was made", n)
		}
		checkHas(t, m, alike(n, 4))
	}
}

func TestAMemoryKeepsNoListThatItAnswers(t *testing.T) {
	for _, n := range []int{1, 3, 1024, limit} {
		m := made(t, some(n))
		first, second := m.All(), m.All()
		for i := range first {
			first[i] = -1
		}
		_ = append(first, 1, 2, 3)
		if !slices.Equal(second, some(n)) {
			t.Fatalf("two answers of %d words share them", n)
		}
		checkHas(t, m, some(n))
		for addr := range int32(n) {
			m.Store(addr, 4)
		}
		if !slices.Equal(first, alike(n, -1)) || !slices.Equal(second, some(n)) {
			t.Fatalf("stores in a memory of %d words changed what All had answered", n)
		}
		checkHas(t, m, alike(n, 4))
	}
}

func TestMemoriesKnowNothingOfOneAnother(t *testing.T) {
	l := some(6)
	a, b := made(t, l), made(t, l)
	c := made(t, a.All())
	for addr := range int32(6) {
		a.Store(addr, 1)
		c.Store(addr, 3)
	}
	made(t, alike(limit, 9)).Store(0, 8)
	_, _ = ram.New(alike(limit+1, 9))
	checkHas(t, a, alike(6, 1))
	checkHas(t, b, some(6))
	checkHas(t, c, alike(6, 3))
	if !slices.Equal(l, some(6)) {
		t.Errorf("the list of two memories is %v", l)
	}
}
