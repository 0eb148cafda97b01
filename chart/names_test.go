package chart_test

import (
	"slices"
	"strings"
	"testing"

	"astrolabe/chart"
)

func TestIsNameByExactAnswers(t *testing.T) {
	for _, s := range []string{"a", "z", "a_", "a0", "z9", "loop_1", "abcdefghijklmnopqrstuvwx", "z_______________________"} {
		if !chart.IsName(s) {
			t.Errorf("%q is no name", s)
		}
	}
	for _, s := range []string{"", "_", "0", "A", "aA", "a a", "a-", "é", "abcdefghijklmnopqrstuvwxy"} {
		if chart.IsName(s) {
			t.Errorf("%q is a name", s)
		}
	}
}

func TestNoNamesAreNone(t *testing.T) {
	l := chart.NoNames()
	for _, s := range l {
		if chart.IsName(s) {
			t.Errorf("%q is a name", s)
		}
	}
	// For each of the reasons: nothing; a first byte, and another one, that may not be; too many.
	for _, s := range []string{"", "_a", "9a", "aB", "a-b", strings.Repeat("a", 25)} {
		if !slices.Contains(l, s) {
			t.Errorf("%q is not among them", s)
		}
	}
	clear(l)
	if chart.NoNames()[1] == "" {
		t.Error("they are not told anew")
	}
}

func TestNamesAreSoManyEachOnce(t *testing.T) {
	for _, n := range []int{0, 1, 2, 60, 2048} {
		l := chart.Names(n)
		lengths, had := map[int]bool{}, map[string]bool{}
		for _, s := range l {
			if !chart.IsName(s) || had[s] {
				t.Errorf("%q is no name, or stands twice", s)
			}
			lengths[len(s)], had[s] = true, true
		}
		if len(l) != n || n == 2048 && len(lengths) != 24 {
			t.Errorf("%d names of %d lengths, want %d", len(l), len(lengths), n)
		}
	}
}
