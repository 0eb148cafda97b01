package graph_test

import (
	"slices"

	"astrolabe/api"
	"astrolabe/chart"
)

// The reckoning of the tests is the chapter's: from each place it is asked anew to which ones ways lead, without any order among them.

// noOperation stands in an instruction for a word that is none.
const noOperation = 0

// plain is code, instruction by instruction.
type plain []api.Ins

// words are those of code.
func (l plain) words() []uint32 { return chart.Words(l) }

// next: the places to which it may go on from one.
func (l plain) next(pc int) []int {
	if pc < 0 || pc >= len(l) || l[pc].Op == noOperation {
		return nil
	}
	var to []int
	switch chart.Name(l[pc].Op) {
	case "beq", "bne", "blt":
		to = []int{l[pc].N, pc + 1}
	case "jump", "jal":
		to = []int{l[pc].N}
	case "jr", "halt":
	default:
		to = []int{pc + 1}
	}
	var out []int
	for p := range l {
		if slices.Contains(to, p) {
			out = append(out, p)
		}
	}
	return out
}

// onwards are the places to which it may go on, of all places.
func (l plain) onwards() [][]int {
	out := make([][]int, len(l))
	for pc := range l {
		out[pc] = l.next(pc)
	}
	return out
}

// none is a place that no code has.
const none = -1

// ledTo: to which places ways lead that begin at one, and on which another one is not; that where they begin counts.
func ledTo(onwards [][]int, from, without int) []bool {
	out := make([]bool, len(onwards))
	if from < 0 || from >= len(out) || from == without {
		return out
	}
	out[from] = true
	for list := []int{from}; len(list) > 0; list = list[1:] {
		for _, p := range onwards[list[0]] {
			if p != without && !out[p] {
				out[p] = true
				list = append(list, p)
			}
		}
	}
	return out
}

// told is all that the chapter tells of code.
type told struct {
	onwards [][]int
	reached []bool
	// ahead tells of a, then of b.
	ahead  [][]bool
	backs  []api.Fix
	loops  [][]int
	cyclic bool
}

// tell reckons all that the chapter tells.
func (l plain) tell() told {
	x := told{onwards: l.onwards()}
	x.reached = ledTo(x.onwards, 0, none)
	for a := range l {
		past := ledTo(x.onwards, 0, a)
		row := make([]bool, len(l))
		for b := range l {
			row[b] = x.reached[a] && x.reached[b] && !past[b]
		}
		x.ahead = append(x.ahead, row)
	}
	for at := range l {
		for _, to := range x.onwards[at] {
			if x.ahead[to][at] {
				x.backs = append(x.backs, api.Fix{At: at, To: to})
			}
		}
		for _, p := range x.onwards[at] {
			if x.reached[at] && ledTo(x.onwards, p, none)[at] {
				x.cyclic = true
			}
		}
	}
	for head := range l {
		x.loops = append(x.loops, x.loop(head))
	}
	return x
}

// loop: the places of a loop: head, and each from which a back to it can be come to without it.
func (x told) loop(head int) []int {
	var last []int
	for _, back := range x.backs {
		if back.To == head {
			last = append(last, back.At)
		}
	}
	if len(last) == 0 {
		return nil
	}
	var out []int
	for p := range x.onwards {
		to := ledTo(x.onwards, p, head)
		if p == head || x.reached[p] && slices.ContainsFunc(last, func(at int) bool { return to[at] }) {
			out = append(out, p)
		}
	}
	return out
}
