package chart_test

import (
	"testing"

	"astrolabe/chart"
)

func TestNumbersWithoutAPattern(t *testing.T) {
	for n := 1; n < 50; n++ {
		a, b, times := chart.Chance(n), chart.Chance(n), make([]int, n)
		for range 1000 * n {
			x := a.Below(n)
			if y := b.Below(n); y != x {
				t.Fatalf("below %d are %d, and %d", n, x, y)
			}
			times[x]++
		}
		for x, k := range times {
			if k < 700 || k > 1300 && n > 1 {
				t.Errorf("below %d was %d told %d times of %d", n, x, k, 1000*n)
			}
		}
	}
}
