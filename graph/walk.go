package graph

// trip is what a walk came to: which places, in which order, and from which one to each.
type trip struct {
	came  set
	order []int32
	from  []int32
}

// step is one from a place to another one.
type step struct{ from, to int32 }

// leg goes the last of the steps that wait, and answers the leg behind it; there is none, if no step waits any more. It is handed itself, rather than called within itself, as ways may be longer than calls may be deep.
type leg func(self leg) leg

// all is the walk to all places to which ways lead.
func (w ways) all() trip {
	return w.walk(w.begin(), func(int32) bool { return true })
}

// past is the walk to all places to which ways lead that do not come through one.
func (w ways) past(a int) trip {
	return w.walk(w.begin(), func(p int32) bool { return int(p) != a })
}

// walk begins at some places, and goes on from each one as far as it may: it asks each time that a way leads to a place that it did not come to yet. It goes deeper ahead of wider: what a place leads to, and it did not come to ahead of that place, it comes to by way of that place.
func (w ways) walk(start []int32, may func(p int32) bool) trip {
	t := trip{came: newSet(w.size()), from: make([]int32, w.size())}
	var waits []step
	wait := func(from int32, l []int32) {
		for _, to := range l {
			if !t.came.has(int(to)) && may(to) {
				waits = append(waits, step{from, to})
			}
		}
	}
	wait(none, start)
	next := leg(func(self leg) leg {
		last := len(waits) - 1
		if last < 0 {
			return nil
		}
		s := waits[last]
		waits = waits[:last]
		// A place may wait several times: the last time is the one that was found deepest.
		if t.come(s) {
			wait(s.to, w.of(int(s.to)))
		}
		return self
	})
	for next != nil {
		next = next(next)
	}
	return t
}

// come goes a step, and tells whether its place was not come to ahead of it.
func (t *trip) come(s step) bool {
	if t.came.has(int(s.to)) {
		return false
	}
	t.came.add(int(s.to))
	t.order = append(t.order, s.to)
	t.from[s.to] = s.from
	return true
}
