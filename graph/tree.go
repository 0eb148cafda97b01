package graph

import "slices"

// spans tells at which count each place stands, if all that it stands ahead of is put right behind it, and at which one the last of these does.
type spans struct{ at, last []int32 }

// ahead: does one of two places that were come to stand ahead of the other one?
func (s spans) ahead(a, b int) bool { return s.at[a] <= s.at[b] && s.at[b] <= s.last[a] }

// spansOf are those of the places that a walk came to.
func spansOf(w ways, t trip) spans {
	near := nearest(w, t)
	// How many others each one stands ahead of: the walk came to all of them behind it.
	others := make([]int32, len(near))
	for k := len(near) - 1; k > 0; k-- {
		others[near[k]] += others[k] + 1
	}
	s := spans{at: make([]int32, w.size()), last: make([]int32, w.size())}
	free := make([]int32, len(near))
	for k, p := range t.order {
		s.at[p] = free[near[k]]
		s.last[p] = s.at[p] + others[k]
		free[near[k]] = s.last[p] + 1
		free[k] = s.at[p] + 1
	}
	return s
}

// numbers tells of each place as the how manieth one a walk came to it, from 0 on.
func numbers(w ways, t trip) []int32 {
	l := make([]int32, w.size())
	for p := range l {
		l[p] = none
	}
	for k, p := range t.order {
		l[p] = int32(k)
	}
	return l
}

// nearest tells of each place that a walk came to the last of the others that stand ahead of it, and of the first one itself; places are told by numbers. It is found in Lengauer's and Tarjan's way, as it would take too long to look past each place by itself.
func nearest(w ways, t trip) []int32 {
	number, back := numbers(w, t), w.turned()
	n := len(t.order)
	near, f, held := make([]int32, n), newForest(n), newShelf(n)
	for k := int32(n - 1); k > 0; k-- {
		p := t.order[k]
		for _, q := range back.of(int(p)) {
			if number[q] != none {
				f.low[k] = min(f.low[k], f.low[f.least(number[q])])
			}
		}
		held.put(f.low[k], k)
		parent := number[t.from[p]]
		f.over[k] = parent
		for j := held.take(parent); j != none; j = held.behind[j] {
			near[j] = parent
			if u := f.least(j); f.low[u] < parent {
				near[j] = u
			}
		}
	}
	// Such as is not the low one was told of another number, whose nearest one it shares, and is known by now.
	for k := 1; k < n; k++ {
		if near[k] != f.low[k] {
			near[k] = near[near[k]]
		}
	}
	return near
}

// forest is of numbers, which are put into it from the last one on, each under the one from which the walk came to it.
type forest struct {
	// low tells the least number from which a way leads to each, with none between but greater ones than it.
	low []int32
	// over tells under which one each stands, or under which one further up, where all between were looked at.
	over []int32
	// best tells which one has the least low of each and of those that were looked at.
	best []int32
	// path is memory for those that are being looked at.
	path []int32
}

// newForest is one of n numbers, of which none stands under another one.
func newForest(n int) *forest {
	f := &forest{low: make([]int32, n), over: make([]int32, n), best: make([]int32, n)}
	for k := range int32(n) {
		f.low[k], f.over[k], f.best[k] = k, none, k
	}
	return f
}

// least is which one has the least low of a number and of all above it but the highest one; a number that stands under none is it itself.
func (f *forest) least(k int32) int32 {
	if f.over[k] == none {
		return k
	}
	path := f.path[:0]
	for j := k; f.over[f.over[j]] != none; j = f.over[j] {
		path = append(path, j)
	}
	for _, j := range slices.Backward(path) {
		over := f.over[j]
		if f.low[f.best[over]] < f.low[f.best[j]] {
			f.best[j] = f.best[over]
		}
		f.over[j] = f.over[over]
	}
	f.path = path
	return f.best[k]
}

// shelf holds numbers by other numbers, each by one at a time.
type shelf struct {
	first  []int32
	behind []int32
}

// newShelf is one for n numbers, of which it holds none.
func newShelf(n int) shelf {
	s := shelf{first: make([]int32, n), behind: make([]int32, n)}
	for k := range n {
		s.first[k] = none
	}
	return s
}

// put has a number held by another one.
func (s shelf) put(by, k int32) {
	s.behind[k] = s.first[by]
	s.first[by] = k
}

// take is the first one that is held by a number; the others stand behind it. They are held no more.
func (s shelf) take(by int32) int32 {
	k := s.first[by]
	s.first[by] = none
	return k
}
