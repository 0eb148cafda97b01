package mill_test

import (
	"testing"

	"astrolabe/mill"
)

func writeTurns(do func(t mill.Turns[string]) []string) program {
	return write(func(w *writer) []string { return do(mill.Turns[string]{Looper: w}) })
}

// vector are the lines that turn a place: 15 of them.
func vector(y, x string) []string {
	return []string{
		"again 28 " + x + " " + y + " 0",
		"sign &.1",
		"sar &2.1 &2.i", "xor & &2", "sub & &3", "add &5.0 &",
		"sar &6.0 &6.i", "xor & &6", "sub & &7", "sub &9.1 &",
		"item 28 421657428 4 &10.i", "xor & &10", "sub & &11", "add &13.2 &",
		"until &9 &5 &",
	}
}

func TestVectorByAnotherMill(t *testing.T) {
	got := writeTurns(func(t mill.Turns[string]) []string {
		x, y, a := t.Vector("y", "x")
		return []string{x, y, a}
	})
	check(t, got, expected([]string{"#15.0", "#15.1", "#15.2"}, vector("y", "x")...))
}

func TestAngleByAnotherMill(t *testing.T) {
	got := writeTurns(func(t mill.Turns[string]) []string { return []string{t.Angle("y", "x")} })
	l := []string{"abs y", "abs x", "max & &2", "min &2 &3", "clz &2", "sub & 1", "shl &3 &", "shr & 2", "shl &6 &3", "shr & 2"}
	l = append(l, vector("#8", "#10")...)
	l = append(l,
		"slt #2 #1", "mask &", "and 843314857 &", "xor &4.2 &2", "sub & &3", "add &3 &",
		"sign x", "and 1686629713 &", "xor &3 &2", "sub & &3", "add &3 &",
		"sign y", "xor &2 &", "sub & &2")
	check(t, got, expected([]string{"#39"}, l...))
}

func TestWaveByAnotherMill(t *testing.T) {
	got := writeTurns(func(t mill.Turns[string]) []string {
		y, x := t.Wave("a")
		return []string{y, x}
	})
	check(t, got, expected([]string{"#25.1", "#27"},
		"abs a", "slt 843314857 &", "mask &",
		"sign a", "xor 1686629713 &", "sub & &2",
		"and & #3", "xor a #3", "sub & #3", "add &3 &",
		"again 28 652032874 0 &",
		"sign &.2",
		"sar &2.1 &2.i", "xor & &2", "sub & &3", "sub &5.0 &",
		"sar &6.0 &6.i", "xor & &6", "sub & &7", "add &9.1 &",
		"item 28 421657428 4 &10.i", "xor & &10", "sub & &11", "sub &13.2 &",
		"until &9 &5 &",
		"xor &.0 #3", "sub & #3",
	))
}
