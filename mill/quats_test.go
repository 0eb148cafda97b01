package mill_test

import (
	"slices"
	"testing"

	"astrolabe/mill"
)

// The parts of p and q, and the numbers of w, by the chapter's names.
var (
	partsP   = [4]string{"p0", "p1", "p2", "p3"}
	partsQ   = [4]string{"q0", "q1", "q2", "q3"}
	turningW = [3]string{"w0", "w1", "w2"}
)

func writeQuats(do func(m mill.Quats[string]) []string) program {
	return write(func(w *writer) []string { return do(mill.Quats[string]{Roots: mill.Roots[string]{Mill: w}}) })
}

func TestMulByAnotherMill(t *testing.T) {
	got := writeQuats(func(m mill.Quats[string]) []string {
		a := m.Mul(partsP, partsQ)
		return a[:]
	})
	check(t, got, expected([]string{"#7", "#14", "#21", "#28"},
		"mulq p0 q0", "mulq p1 q1", "subs &2 &", "mulq p2 q2", "subs &2 &", "mulq p3 q3", "subs &2 &",
		"mulq p0 q1", "mulq p1 q0", "adds &2 &", "mulq p2 q3", "adds &2 &", "mulq p3 q2", "subs &2 &",
		"mulq p0 q2", "mulq p1 q3", "subs &2 &", "mulq p2 q0", "adds &2 &", "mulq p3 q1", "adds &2 &",
		"mulq p0 q3", "mulq p1 q2", "adds &2 &", "mulq p2 q1", "subs &2 &", "mulq p3 q0", "adds &2 &",
	))
}

func TestConjByAnotherMill(t *testing.T) {
	got := writeQuats(func(m mill.Quats[string]) []string {
		a := m.Conj(partsP)
		return a[:]
	})
	check(t, got, expected([]string{"p0", "#1", "#2", "#3"}, "neg p1", "neg p2", "neg p3"))
}

// norm are the lines of a norm: line 7 gives it.
var norm = []string{"mulq p0 p0", "mulq p1 p1", "adds &2 &", "mulq p2 p2", "adds &2 &", "mulq p3 p3", "adds &2 &"}

func TestNormByAnotherMill(t *testing.T) {
	got := writeQuats(func(m mill.Quats[string]) []string { return []string{m.Norm(partsP)} })
	check(t, got, expected([]string{"#7"}, norm...))
}

func TestUnitByAnotherMill(t *testing.T) {
	of := partsP
	got := writeQuats(func(m mill.Quats[string]) []string {
		a := m.Unit(of)
		return a[:]
	})
	l := slices.Clone(norm)
	l = append(l, "clz &", "and & 30", "shl #7 &", "shr & 2", "shr &3 1", "mulq 715827883 #11", "subs 1184766729 &")
	for range 4 {
		l = append(l, "mulq & &", "mulq #11 &", "shl & 2", "subs 1073741824 &", "mulq &5 &", "sar & 1", "adds &7 &")
	}
	l = append(l,
		"mulq p0 #42", "shl & #12", "mulq p1 #42", "shl & #12",
		"mulq p2 #42", "shl & #12", "mulq p3 #42", "shl & #12")
	check(t, got, expected([]string{"#44", "#46", "#48", "#50"}, l...))
	if of != partsP {
		t.Errorf("what was handed in is now %q", of)
	}
}

func TestRateByAnotherMill(t *testing.T) {
	got := writeQuats(func(m mill.Quats[string]) []string {
		a := m.Rate(partsQ, turningW)
		return a[:]
	})
	check(t, got, expected([]string{"#6", "#11", "#16", "#21"},
		"mulq q1 w0", "subs 0 &", "mulq q2 w1", "subs &2 &", "mulq q3 w2", "subs &2 &",
		"mulq q0 w0", "mulq q2 w2", "adds &2 &", "mulq q3 w1", "subs &2 &",
		"mulq q0 w1", "mulq q1 w2", "subs &2 &", "mulq q3 w0", "adds &2 &",
		"mulq q0 w2", "mulq q1 w1", "adds &2 &", "mulq q2 w0", "subs &2 &",
	))
}
