package nfa_test

import (
	"sort"
	"strings"
)

// slowMatch tells by a table which beginnings of the glob match which
// beginnings of the text.
func slowMatch(p, text string) bool {
	row := make([]bool, len(text)+1) // row[j]: what was gone through of p matches text[:j]
	row[0] = true
	for i := range len(p) {
		next := make([]bool, len(text)+1)
		for j := range next {
			switch {
			case p[i] == '*':
				next[j] = row[j] || j > 0 && next[j-1]
			case j > 0:
				next[j] = row[j-1] && (p[i] == '?' || p[i] == text[j-1])
			}
		}
		row = next
	}
	return row[len(text)]
}

// slowFold replaces letter by letter.
func slowFold(s string) string {
	const capitals = "ABCDEFGHIJKLMNOPQRSTUVWXYZ"
	for i := range capitals {
		s = strings.ReplaceAll(s, capitals[i:i+1], "abcdefghijklmnopqrstuvwxyz"[i:i+1])
	}
	return s
}

// slowReached asks of each state by itself whether text leads to it: what
// stands before it, and the * that it stands at, match the text.
func slowReached(norm, text string, fold bool) []int {
	if fold {
		norm, text = slowFold(norm), slowFold(text)
	}
	var l []int
	for state := range len(norm) + 1 {
		before := norm[:state]
		if strings.HasPrefix(norm[state:], "*") {
			before += "*"
		}
		if slowMatch(before, text) {
			l = append(l, state)
		}
	}
	return l
}

// slowStep goes from one state at a time, one arrow after the other.
func slowStep(norm string, l []int, c byte, fold bool) []int {
	reached := map[int]bool{}
	for _, state := range l {
		if state < 0 || state >= len(norm) {
			continue
		}
		to := state + 1
		switch at := norm[state : state+1]; {
		case at == "*":
			to = state
		case at == "?":
		case at == string([]byte{c}):
		case fold && slowFold(at) == slowFold(string([]byte{c})):
		default:
			continue
		}
		reached[to] = true
		for to < len(norm) && norm[to] == '*' {
			to++
			reached[to] = true
		}
	}
	var list []int
	for state := range reached {
		list = append(list, state)
	}
	sort.Ints(list)
	return list
}

// texts returns all strings of at most length pieces.
func texts(length int, pieces ...string) []string {
	all, last := []string{""}, []string{""}
	for range length {
		var longer []string
		for _, s := range last {
			for _, piece := range pieces {
				longer = append(longer, s+piece)
			}
		}
		all, last = append(all, longer...), longer
	}
	return all
}

// lists returns all sets of the numbers below n.
func lists(n int) [][]int {
	all := [][]int{nil}
	for i := range n {
		for _, l := range all {
			all = append(all, append(append([]int{}, l...), i))
		}
	}
	return all
}
