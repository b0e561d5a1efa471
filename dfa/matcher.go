package dfa

import (
	"outlaw/api"
	"outlaw/nfa"
)

// bytes is how many bytes there are.
const bytes = 256

// matcher matches texts, with a table or without one.
type matcher interface {
	match(text string) bool
	full() bool
	states() int
}

// table is a valid api.Dfa: its numbers need no check.
type table struct {
	class  [bytes]int
	next   [][]int
	accept []bool
}

// read returns d as a table, which shares the memory of d, if d is valid.
func read(d api.Dfa) (*table, bool) {
	states := len(d.Next)
	if states < 1 || states > api.MostStates || len(d.Accept) != states {
		return nil, false
	}
	classes := len(d.Next[0])
	if len(d.Class) != bytes || !areBelow(classes, d.Class) {
		return nil, false
	}
	for _, row := range d.Next {
		if len(row) != classes || !areBelow(states, row) {
			return nil, false
		}
	}
	return &table{class: [bytes]int(d.Class), next: d.Next, accept: d.Accept}, true
}

// areBelow reports whether l has only numbers from 0 on that are below n.
func areBelow(n int, l []int) bool {
	for _, number := range l {
		if number < 0 || number >= n {
			return false
		}
	}
	return true
}

func (t *table) match(text string) bool {
	state := 0
	for i := range len(text) {
		state = t.next[state][t.class[text[i]]]
	}
	return t.accept[state]
}

func (t *table) full() bool {
	return false
}

func (t *table) states() int {
	return len(t.next)
}

// without is an automaton whose table is too great.
type without struct {
	n *nfa.Nfa
}

func (w without) match(text string) bool {
	return w.n.Run(text)
}

func (w without) full() bool {
	return true
}

func (w without) states() int {
	return 0
}
