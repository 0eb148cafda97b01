package graph

import (
	"slices"

	"astrolabe/api"
	"astrolabe/code"
)

// none is no place, and no number.
const none = -1

// ways tells of each place to which ones it leads.
type ways struct {
	// to are these, place by place; ends tells where those of each place begin, and behind it, where they end.
	to, ends []int32
}

// onward adds to a list the places to which it may go on from one that the code has, rising.
func onward(l []int32, words []uint32, pc int) []int32 {
	near, far := pc+1, none
	i, _ := code.Decode(words[pc])
	switch i.Op {
	case api.OpBeq, api.OpBne, api.OpBlt:
		far = i.N
	case api.OpJump, api.OpJal:
		near, far = none, i.N
	case 0, api.OpJr, api.OpHalt: // A word that is no instruction has no operation.
		near = none
	}
	for _, p := range slices.Compact([]int{min(near, far), max(near, far)}) {
		if p >= 0 && p < len(words) {
			l = append(l, int32(p))
		}
	}
	return l
}

// read are the ways of code.
func read(words []uint32) ways {
	w := ways{ends: make([]int32, 1, len(words)+1)}
	for pc := range words {
		w.to = onward(w.to, words, pc)
		w.ends = append(w.ends, int32(len(w.to)))
	}
	return w
}

// size is how many places there are.
func (w ways) size() int { return len(w.ends) - 1 }

// of are the places to which one leads.
func (w ways) of(p int) []int32 { return w.to[w.ends[p]:w.ends[p+1]] }

// begin is the first place, if there is one.
func (w ways) begin() []int32 { return make([]int32, min(w.size(), 1)) }

// turned are the same ways the other way round: which places lead to each.
func (w ways) turned() ways {
	t := ways{to: make([]int32, len(w.to)), ends: make([]int32, w.size()+2)}
	for _, q := range w.to {
		t.ends[q+2]++
	}
	for k := range w.size() {
		t.ends[k+2] += t.ends[k+1]
	}
	// With each place that is put there, where a list begins moves on to where it ends, which is where the next one begins.
	for p := range w.size() {
		for _, q := range w.of(p) {
			t.to[t.ends[q+1]] = int32(p)
			t.ends[q+1]++
		}
	}
	t.ends = t.ends[:len(w.ends)]
	return t
}
