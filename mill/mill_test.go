package mill_test

import (
	"slices"
	"testing"

	"astrolabe/alu"
	"astrolabe/mill"
)

// edges are words at which operations turn.
var edges = []int32{0, 1, 2, 3, -1, -2, -3, 31, 32, 33, 65535, 65536, 759250125, -759250125, 1 << 30, -1 << 30, 1<<31 - 1, -1<<31 + 1, -1 << 31}

func TestWordsReckonAsLayer7(t *testing.T) {
	var words mill.Looper[int32] = mill.Words{}
	// Also numbers that are no operations', and operations that don't reckon.
	for op := -3; op <= 46; op++ {
		for _, a := range edges {
			// Of two b is asked, of one alone it isn't: 0 stands for it.
			if got, want := words.One(op, a), reckoned(op, a, 0); got != want {
				t.Errorf("One(%d, %d) = %d, want %d", op, a, got, want)
			}
			for _, b := range edges {
				if got, want := words.Two(op, a, b), reckoned(op, a, b); got != want {
					t.Errorf("Two(%d, %d, %d) = %d, want %d", op, a, b, got, want)
				}
			}
		}
	}
}

// reckoned is layer 7's answer, which is 0 where it reckons nothing.
func reckoned(op int, a, b int32) int32 {
	x, _ := alu.Do(op, a, b)
	return x
}

func TestWordsAreThemselves(t *testing.T) {
	for _, x := range edges {
		if got := (mill.Words{}).Word(x); got != x {
			t.Errorf("Word(%d) = %d", x, got)
		}
	}
}

func TestWordsTakeItems(t *testing.T) {
	for i, want := range edges {
		if got := (mill.Words{}).Item(edges, int32(i)); got != want {
			t.Errorf("Item(edges, %d) = %d, want %d", i, got, want)
		}
	}
}

func TestWordsDoAgain(t *testing.T) {
	from := [3]int32{7, 8, 9}
	for n := range 5 {
		var seen [][4]int32
		got := mill.Words{}.Again(n, from, func(i int32, at [3]int32) [3]int32 {
			seen = append(seen, [4]int32{i, at[0], at[1], at[2]})
			return [3]int32{at[1], at[2], at[0] + 10}
		})
		all := [][4]int32{{0, 7, 8, 9}, {1, 8, 9, 17}, {2, 9, 17, 18}, {3, 17, 18, 19}, {4, 18, 19, 27}}
		if !slices.Equal(seen, all[:n]) {
			t.Errorf("Again(%d): %v, want %v", n, seen, all[:n])
		}
		if want := [3]int32(all[n][1:]); got != want {
			t.Errorf("Again(%d) = %v, want %v", n, got, want)
		}
	}
}
