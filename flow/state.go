package flow

// state is what is told of a place, ahead of its instruction: whether it is reached, and which registers are secret there. Without either it is that of a place that no way led to yet.
type state [2]uint32

// The words of a state: 1, if the place is reached; 2^i for each register i that is secret, together.
const (
	reached = iota
	secret
)

// begin is the state with which a run begins: all registers are open.
func begin() state { return state{reached: 1} }

// isReached: did a way lead there?
func (s state) isReached() bool { return s[reached] != 0 }

// has: is a register secret?
func (s state) has(r int) bool { return s[secret]>>r&1 != 0 }

// put is the state behind one in which a register gets a word that is secret, or is open. Register 0 gets none.
func (s state) put(r int, hidden bool) state {
	s[secret] &^= 1 << r
	if hidden && r != 0 {
		s[secret] |= 1 << r
	}
	return s
}

// meet is the state of a place to which ways of both states lead.
func (s state) meet(other state) state {
	for k, x := range other {
		s[k] |= x
	}
	return s
}
