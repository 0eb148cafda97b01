package flow

import "container/heap"

// waiting are places that wait, as package heap keeps them: the first of them is the least.
type waiting []int

func (l waiting) Len() int           { return len(l) }
func (l waiting) Less(i, k int) bool { return l[i] < l[k] }
func (l waiting) Swap(i, k int)      { l[i], l[k] = l[k], l[i] }

// Push is heap's.
func (l *waiting) Push(x any) { *l = append(*l, x.(int)) }

// Pop is heap's.
func (l *waiting) Pop() any {
	last := len(*l) - 1
	x := (*l)[last]
	*l = (*l)[:last]
	return x
}

// states are those of all places, when all ways are gone. A place waits as often as its state changes, which it does once for each register at most, and once when it is reached.
func (p program) states() []state {
	l := make([]state, len(p.code))
	waits := &waiting{}
	come := func(at int, s state) {
		if at >= len(l) {
			return
		}
		if met := l[at].meet(s); met != l[at] {
			l[at] = met
			heap.Push(waits, at)
		}
	}
	come(0, begin())
	for waits.Len() > 0 {
		at := heap.Pop(waits).(int)
		s := p.behind(p.code[at], l[at])
		for _, to := range p.onward(at) {
			come(to, s)
		}
	}
	return l
}
