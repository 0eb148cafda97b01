package build_test

import (
	"slices"
	"strconv"
	"testing"

	"astrolabe/api"
	"astrolabe/build"
	"astrolabe/core"
)

// P21.5: counted, by runs of the core

// ran is a core that has run a builder's code, with a halt behind it, to its end; its memory has words that are all 0.
func ran(t *testing.T, b *build.Builder) *core.Core {
	t.Helper()
	if e := b.Ins(api.Ins{Op: api.OpHalt}); e != api.OK {
		t.Fatal(e)
	}
	l, name, e := b.Finish()
	if e != api.OK {
		t.Fatalf("Finish() = %q, %v", name, e)
	}
	c, e := core.New(l, make([]int32, api.MaxRam))
	if e != api.OK {
		t.Fatal(e)
	}
	c.Run(api.MaxFuel)
	if c.State() != api.Halted {
		t.Fatalf("it stops at %d with %d", c.PC(), c.State())
	}
	return c
}

// asked are the addresses of all marks that ask one, in order.
func asked(c *core.Core) []int {
	var l []int
	for _, m := range c.Marks() {
		if m.Addr >= 0 {
			l = append(l, m.Addr)
		}
	}
	return l
}

// row is from 0 to n - 1.
func row(n int) []int {
	var l []int
	for k := range n {
		l = append(l, k)
	}
	return l
}

func TestALoopsInsideIsDoneWithEachCountInOrder(t *testing.T) {
	for _, n := range []int{1, 2, 3, 4, 10, 31, 255, 256, 257, 1023, 1024, 2047, 2048} {
		b := build.New()
		b.Loop(1, 2, n, "loop", func() {
			b.Ins(api.Ins{Op: api.OpSw, D: 1, A: 1})
		})
		c := ran(t, b)
		if l := asked(c); !slices.Equal(l, row(n)) {
			t.Errorf("%d times: it is done with %v", n, l)
		}
		if got := c.Reg(1); got != int32(n) {
			t.Errorf("%d times: behind it c is %d", n, got)
		}
		if got, want := len(c.Marks()), 2+3*n+1; got != want {
			t.Errorf("%d times: %d marks, want %d", n, got, want)
		}
	}
}

func TestALoopOfEachTwoRegisters(t *testing.T) {
	for c := 1; c < 32; c++ {
		for l := 1; l < 32; l++ {
			if c == l {
				continue
			}
			b := build.New()
			// What is there ahead of it does not count.
			b.Set(c, -70000)
			b.Set(l, 70000)
			if e := b.Loop(c, l, 5, "loop", func() { b.Ins(api.Ins{Op: api.OpSw, D: l, A: c, N: 100}) }); e != api.OK {
				t.Fatal(e)
			}
			if got := asked(ran(t, b)); !slices.Equal(got, []int{100, 101, 102, 103, 104}) {
				t.Errorf("with %d and %d it is done with %v", c, l, got)
			}
		}
	}
}

func TestALoopOfManyTimes(t *testing.T) {
	for _, n := range []int{1, 2, 1000, 16384, 32766, 32767} {
		b := build.New()
		b.Loop(1, 2, n, "loop", func() {
			b.Ins(api.Ins{Op: api.OpAddi, D: 3, A: 3, N: 1})
			b.Ins(api.Ins{Op: api.OpAdd, D: 4, A: 4, B: 1})
		})
		c := ran(t, b)
		if times, sum := c.Reg(3), c.Reg(4); times != int32(n) || sum != int32(n*(n-1)/2) {
			t.Errorf("%d times: it is done %d times, with %d in all", n, times, sum)
		}
	}
}

func TestALoopOfNothingIsDoneSoOften(t *testing.T) {
	for _, n := range []int{1, 2, 100, 32767} {
		b := build.New()
		b.Loop(30, 31, n, "loop", nil)
		c := ran(t, b)
		if got, want := len(c.Marks()), 2+2*n+1; got != want || c.Reg(30) != int32(n) || c.Reg(31) != int32(n) {
			t.Errorf("%d times: %d marks, want %d", n, got, want)
		}
	}
}

func TestLoopsOneBehindTheOtherAndWithin(t *testing.T) {
	b := build.New()
	var want []int
	for k := range 3 {
		// The same registers count again.
		b.Loop(1, 2, 3+k, "outer_"+strconv.Itoa(k), func() {
			b.Loop(3, 4, 5-k, "inner_"+strconv.Itoa(k), func() {
				b.Set(5, 16)
				b.Ins(api.Ins{Op: api.OpMul, D: 5, A: 5, B: 1})
				b.Ins(api.Ins{Op: api.OpAdd, D: 5, A: 5, B: 3})
				b.Ins(api.Ins{Op: api.OpSw, D: 1, A: 5, N: 256 * k})
			})
		})
		for outer := range 3 + k {
			for inner := range 5 - k {
				want = append(want, 256*k+16*outer+inner)
			}
		}
	}
	if got := asked(ran(t, b)); !slices.Equal(got, want) {
		t.Errorf("it is done with %v, want %v", got, want)
	}
}

func TestALoopWithWaysInside(t *testing.T) {
	b := build.New()
	b.Set(4, 3)
	b.Loop(1, 2, 8, "loop", func() {
		b.Go(api.OpBlt, 1, 4, "skip")
		b.Ins(api.Ins{Op: api.OpSw, D: 1, A: 1})
		b.Go(api.OpJump, 0, 0, "on")
		b.Label("skip")
		b.Ins(api.Ins{Op: api.OpSw, D: 1, A: 1, N: 1000})
		b.Label("on")
	})
	if got, want := asked(ran(t, b)), []int{1000, 1001, 1002, 3, 4, 5, 6, 7}; !slices.Equal(got, want) {
		t.Errorf("it is done with %v, want %v", got, want)
	}
}

// P21.2: what is set, and where is gone to, by runs

func TestWhatIsSetIsThere(t *testing.T) {
	for k, n := range numbers() {
		b, d := build.New(), k%32
		// What is there ahead of it does not count.
		b.Set(d, ^n)
		b.Set(d, n)
		want := n
		if d == 0 {
			want = 0
		}
		if got := ran(t, b).Reg(d); got != want {
			t.Errorf("Set(%d, %d): %d is there", d, n, got)
		}
	}
}

func TestARunGoesWhereNamesHaveTheirPlaces(t *testing.T) {
	b := build.New()
	b.Go(api.OpJump, 0, 0, "third")
	b.Label("first")
	b.Ins(api.Ins{Op: api.OpSw, A: 0, N: 1})
	b.Go(api.OpBeq, 0, 0, "second")
	b.Ins(api.Ins{Op: api.OpSw, A: 0, N: 9})
	b.Label("third")
	b.Ins(api.Ins{Op: api.OpSw, A: 0, N: 3})
	b.Go(api.OpJal, 7, 0, "first")
	b.Ins(api.Ins{Op: api.OpSw, A: 0, N: 8})
	b.Label("second")
	b.Ins(api.Ins{Op: api.OpSw, A: 0, N: 2})
	b.Go(api.OpBne, 0, 0, "first")
	b.Go(api.OpBlt, 0, 7, "end")
	b.Ins(api.Ins{Op: api.OpSw, A: 0, N: 7})
	b.Label("end")
	c := ran(t, b)
	if got, want := asked(c), []int{3, 1, 2}; !slices.Equal(got, want) {
		t.Errorf("it asks %v, want %v", got, want)
	}
	if got := c.Reg(7); got != 6 {
		t.Errorf("register 7 is %d", got)
	}
}
