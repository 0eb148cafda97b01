package mill_test

import (
	"testing"

	"astrolabe/alu"
	"astrolabe/mill"
)

// edges are words at which operations turn.
var edges = []int32{0, 1, 2, 3, -1, -2, -3, 31, 32, 33, 65535, 65536, 759250125, -759250125, 1 << 30, -1 << 30, 1<<31 - 1, -1<<31 + 1, -1 << 31}

func TestWordsReckonAsLayer7(t *testing.T) {
	var words mill.Mill[int32] = mill.Words{}
	// Also numbers that are no operations', and operations that don't reckon.
	for op := -3; op <= 46; op++ {
		for _, a := range edges {
			// Of two b is asked, of one alone it isn't: 0 stands for it.
			if got, want := words.One(op, a), reckoned(op, a, 0); got != want {
				t.Errorf("One(%d, %d) = %d, want %d", op, a, got, want)
			}
			for _, b := range edges {
				if got, want := words.Two(op, a, b), reckoned(op, a, b); got != want {
					t.Errorf("Two(%d, %d, %d) = %d, want %d", op, a, b, got, want)
				}
			}
		}
	}
}

// reckoned is layer 7's answer, which is 0 where it reckons nothing.
func reckoned(op int, a, b int32) int32 {
	x, _ := alu.Do(op, a, b)
	return x
}

func TestWordsAreThemselves(t *testing.T) {
	for _, x := range edges {
		if got := (mill.Words{}).Word(x); got != x {
			t.Errorf("Word(%d) = %d", x, got)
		}
	}
}
