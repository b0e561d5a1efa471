package nfa

import "iter"

// A set tells of each state whether it is included.
type set []bool

// states lists the states that are included, in ascending order.
func (s set) states() iter.Seq[int] {
	return func(yield func(int) bool) {
		for state, isIn := range s {
			if isIn && !yield(state) {
				return
			}
		}
	}
}

// walk returns the set after all bytes of text. Two sets take turns, since a
// text may be long.
func walk(s set, text string, step func(from, to set, c byte)) set {
	next := make(set, len(s))
	for i := range len(text) {
		step(s, next, text[i])
		s, next = next, s
	}
	return s
}
