package mill_test

import (
	"slices"
	"strconv"
	"strings"
	"testing"

	"astrolabe/mill"
	"astrolabe/ops"
)

// writer is a mill that makes a program of what it is asked for: its numbers are names, or words as decimals, and each operation is a line that gives the next name.
type writer struct{ lines []string }

func (w *writer) Word(x int32) string { return strconv.Itoa(int(x)) }

func (w *writer) One(op int, a string) string { return w.line(ops.Name(op) + " " + a) }

func (w *writer) Two(op int, a, b string) string { return w.line(ops.Name(op) + " " + a + " " + b) }

func (w *writer) line(s string) string {
	w.lines = append(w.lines, s)
	return name(len(w.lines))
}

// name is that of what line n gives, from 1 on.
func name(n int) string { return "#" + strconv.Itoa(n) }

// program is what a writer made of steps, and what they answered.
type program struct {
	lines   []string
	answers []string
}

func write(do func(r mill.Roots[string]) []string) program {
	w := &writer{}
	answers := do(mill.Roots[string]{Mill: w})
	return program{w.lines, answers}
}

// expected makes a program of the chapter's words: in each of the texts & is the line ahead, &2 the one ahead of that, and so on.
func expected(answers []string, texts ...string) program {
	var lines []string
	for _, s := range texts {
		var parts []string
		for _, p := range strings.Fields(s) {
			if rest, is := strings.CutPrefix(p, "&"); is {
				back := 1
				if rest != "" {
					back, _ = strconv.Atoi(rest)
				}
				p = name(len(lines) + 1 - back)
			}
			parts = append(parts, p)
		}
		lines = append(lines, strings.Join(parts, " "))
	}
	return program{lines, answers}
}

func check(t *testing.T, got, want program) {
	t.Helper()
	if !slices.Equal(got.lines, want.lines) {
		t.Errorf("lines:\n%s\nwant:\n%s", strings.Join(got.lines, "\n"), strings.Join(want.lines, "\n"))
	}
	if !slices.Equal(got.answers, want.answers) {
		t.Errorf("answers %q, want %q", got.answers, want.answers)
	}
}

// level are the lines of a level: line 4 gives u, line 5 h.
var level = []string{"clz x", "and & 30", "shl x &", "shr & 2", "shr &3 1"}

// rsqrt are the lines of 1 by the root: the last one gives z.
func rsqrt() []string {
	l := append(slices.Clone(level), "mulq 715827883 #4", "subs 1184766729 &")
	for range 4 {
		l = append(l, "mulq & &", "mulq #4 &", "shl & 2", "subs 1073741824 &", "mulq &5 &", "sar & 1", "adds &7 &")
	}
	return l
}

func TestLevelByAnotherMill(t *testing.T) {
	got := write(func(r mill.Roots[string]) []string {
		u, h := r.Level("x")
		return []string{u, h}
	})
	check(t, got, expected([]string{"#4", "#5"}, level...))
}

func TestRsqrtByAnotherMill(t *testing.T) {
	got := write(func(r mill.Roots[string]) []string {
		z, h := r.Rsqrt("x")
		return []string{z, h}
	})
	check(t, got, expected([]string{"#35", "#5"}, rsqrt()...))
}

func TestScaleAndSqrtByAnotherMill(t *testing.T) {
	got := write(func(r mill.Roots[string]) []string { return []string{r.Scale("v", "z", "h")} })
	check(t, got, expected([]string{"#2"}, "mulq v z", "shl & h"))
	got = write(func(r mill.Roots[string]) []string { return []string{r.Sqrt("x")} })
	check(t, got, expected([]string{"#37"}, append(rsqrt(), "mulq x &", "shl & #5")...))
}

func TestRecipByAnotherMill(t *testing.T) {
	got := write(func(r mill.Roots[string]) []string {
		z, h := r.Recip("x")
		return []string{z, h}
	})
	l := []string{"clz x", "shl x &", "shr & 2", "subs 1564549212 &"}
	for range 4 {
		l = append(l, "mulq #3 &", "shl & 1", "subs 1073741824 &", "mulq &4 &", "adds &5 &")
	}
	check(t, got, expected([]string{"#24", "#25"}, append(l, "sub #1 1")...))
}
