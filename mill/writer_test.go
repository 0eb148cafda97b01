package mill_test

import (
	"slices"
	"strconv"
	"strings"
	"testing"

	"astrolabe/ops"
)

// writer is a mill that makes a program of what it is asked for: its numbers are names, or words as decimals, and each operation is a line that gives the next name.
type writer struct{ lines []string }

func (w *writer) Word(x int32) string { return strconv.Itoa(int(x)) }

func (w *writer) One(op int, a string) string { return w.line(ops.Name(op) + " " + a) }

func (w *writer) Two(op int, a, b string) string { return w.line(ops.Name(op) + " " + a + " " + b) }

// Item tells how many numbers the list has, and its ends: which ones stand between is held where they are answered.
func (w *writer) Item(l []int32, i string) string {
	return w.line("item " + w.Word(int32(len(l))) + " " + w.Word(l[0]) + " " + w.Word(l[len(l)-1]) + " " + i)
}

// Again tells what is done once, between two lines: the one of what is handed in, and the one of what it came to be.
func (w *writer) Again(n int, from [3]string, do func(i string, at [3]string) [3]string) [3]string {
	begin := w.line("again " + w.Word(int32(n)) + " " + strings.Join(from[:], " "))
	to := do(begin+".i", numbers(begin))
	return numbers(w.line("until " + strings.Join(to[:], " ")))
}

// numbers are the three of a line.
func numbers(s string) [3]string { return [3]string{s + ".0", s + ".1", s + ".2"} }

func (w *writer) line(s string) string {
	w.lines = append(w.lines, s)
	return name(len(w.lines))
}

// name is that of what line n gives, from 1 on.
func name(n int) string { return "#" + strconv.Itoa(n) }

// program is what a writer made of steps, and what they answered.
type program struct {
	lines   []string
	answers []string
}

func write(do func(w *writer) []string) program {
	w := &writer{}
	answers := do(w)
	return program{w.lines, answers}
}

// expected makes a program of the chapter's words: in each of the texts & is the line ahead, &2 the one ahead of that, and so on; what stands behind a point is which of a line's numbers it is.
func expected(answers []string, texts ...string) program {
	var lines []string
	for _, s := range texts {
		var parts []string
		for _, p := range strings.Fields(s) {
			if rest, is := strings.CutPrefix(p, "&"); is {
				count, part, of := strings.Cut(rest, ".")
				back := 1
				if count != "" {
					back, _ = strconv.Atoi(count)
				}
				p = name(len(lines) + 1 - back)
				if of {
					p += "." + part
				}
			}
			parts = append(parts, p)
		}
		lines = append(lines, strings.Join(parts, " "))
	}
	return program{lines, answers}
}

func check(t *testing.T, got, want program) {
	t.Helper()
	if !slices.Equal(got.lines, want.lines) {
		t.Errorf("lines:\n%s\nwant:\n%s", strings.Join(got.lines, "\n"), strings.Join(want.lines, "\n"))
	}
	if !slices.Equal(got.answers, want.answers) {
		t.Errorf("answers %q, want %q", got.answers, want.answers)
	}
}
