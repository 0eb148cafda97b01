package mill_test

import (
	"slices"
	"testing"

	"astrolabe/mill"
)

func writeRoots(do func(r mill.Roots[string]) []string) program {
	return write(func(w *writer) []string { return do(mill.Roots[string]{Mill: w}) })
}

// level are the lines of a level: line 4 gives u, line 5 h.
var level = []string{"clz x", "and & 30", "shl x &", "shr & 2", "shr &3 1"}

// rsqrt are the lines of 1 by the root: the last one gives z.
func rsqrt() []string {
	l := append(slices.Clone(level), "mulq 715827883 #4", "subs 1184766729 &")
	for range 4 {
		l = append(l, "mulq & &", "mulq #4 &", "shl & 2", "subs 1073741824 &", "mulq &5 &", "sar & 1", "adds &7 &")
	}
	return l
}

func TestLevelByAnotherMill(t *testing.T) {
	got := writeRoots(func(r mill.Roots[string]) []string {
		u, h := r.Level("x")
		return []string{u, h}
	})
	check(t, got, expected([]string{"#4", "#5"}, level...))
}

func TestRsqrtByAnotherMill(t *testing.T) {
	got := writeRoots(func(r mill.Roots[string]) []string {
		z, h := r.Rsqrt("x")
		return []string{z, h}
	})
	check(t, got, expected([]string{"#35", "#5"}, rsqrt()...))
}

func TestScaleAndSqrtByAnotherMill(t *testing.T) {
	got := writeRoots(func(r mill.Roots[string]) []string { return []string{r.Scale("v", "z", "h")} })
	check(t, got, expected([]string{"#2"}, "mulq v z", "shl & h"))
	got = writeRoots(func(r mill.Roots[string]) []string { return []string{r.Sqrt("x")} })
	check(t, got, expected([]string{"#37"}, append(rsqrt(), "mulq x &", "shl & #5")...))
}

func TestRecipByAnotherMill(t *testing.T) {
	got := writeRoots(func(r mill.Roots[string]) []string {
		z, h := r.Recip("x")
		return []string{z, h}
	})
	l := []string{"clz x", "shl x &", "shr & 2", "subs 1564549212 &"}
	for range 4 {
		l = append(l, "mulq #3 &", "shl & 1", "subs 1073741824 &", "mulq &4 &", "adds &5 &")
	}
	check(t, got, expected([]string{"#24", "#25"}, append(l, "sub #1 1")...))
}
