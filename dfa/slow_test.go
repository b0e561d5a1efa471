package dfa_test

import (
	"slices"
	"strings"

	"outlaw/api"
)

// slowMatch tells by a table which beginnings of the glob match which
// beginnings of the text.
func slowMatch(p, text string, fold bool) bool {
	if fold {
		p, text = slowFold(p), slowFold(text)
	}
	row := make([]bool, len(text)+1) // row[j]: what was gone through of p matches text[:j]
	row[0] = true
	for i := range len(p) {
		next := make([]bool, len(text)+1)
		for j := range next {
			switch {
			case p[i] == '*':
				next[j] = row[j] || j > 0 && next[j-1]
			case j > 0:
				next[j] = row[j-1] && (p[i] == '?' || p[i] == text[j-1])
			}
		}
		row = next
	}
	return row[len(text)]
}

// slowFold replaces letter by letter.
func slowFold(s string) string {
	const capitals = "ABCDEFGHIJKLMNOPQRSTUVWXYZ"
	for i := range capitals {
		s = strings.ReplaceAll(s, capitals[i:i+1], "abcdefghijklmnopqrstuvwxyz"[i:i+1])
	}
	return s
}

// slowNorm moves one ? at a time before a *, and drops one * of two.
func slowNorm(p string) string {
	for {
		next := strings.Replace(strings.Replace(p, "*?", "?*", 1), "**", "*", 1)
		if next == p {
			return p
		}
		p = next
	}
}

// slowClasses asks of each byte by itself which class it has, and how many
// there are.
func slowClasses(norm string, fold bool) ([]int, int) {
	if fold {
		norm = slowFold(norm)
	}
	plain := strings.NewReplacer("*", "", "?", "").Replace(norm)
	count := 1
	of := map[string]int{}
	for c := range 256 {
		s := string([]byte{byte(c)})
		if strings.Contains(plain, s) {
			of[s] = count
			count++
		}
	}
	class := make([]int, 256)
	for c := range class {
		s := string([]byte{byte(c)})
		if fold {
			s = slowFold(s)
		}
		class[c] = of[s]
	}
	return class, count
}

// slowSet is a set of positions, and its closure with it, as a text with a 1
// for each position in it and a 0 for each other.
func slowSet(norm string, positions ...int) string {
	set := []byte(strings.Repeat("0", len(norm)+1))
	for _, position := range positions {
		set[position] = '1'
		for position < len(norm) && norm[position] == '*' {
			position++
			set[position] = '1'
		}
	}
	return string(set)
}

// slowStep asks of each position by itself where the byte c leads from it.
func slowStep(norm, set string, c byte, fold bool) string {
	s := string([]byte{c})
	var to []int
	for position := range len(norm) {
		at := norm[position : position+1]
		switch {
		case set[position] == '0':
		case at == "*":
			to = append(to, position)
		case at == "?", at == s, fold && slowFold(at) == slowFold(s):
			to = append(to, position+1)
		}
	}
	return slowSet(norm, to...)
}

// slowBuild takes a step by every byte, in the order of the classes, and looks
// for the set among all that there are. It does not ask whether p is a glob.
func slowBuild(p string, fold bool, most int) (api.Dfa, bool) {
	norm := slowNorm(p)
	class, classes := slowClasses(norm, fold)
	sets := []string{slowSet(norm, 0)}
	find := func(set string) int {
		if i := slices.Index(sets, set); i >= 0 {
			return i
		}
		sets = append(sets, set)
		return len(sets) - 1
	}
	d := api.Dfa{Class: class}
	for i := 0; i < len(sets); i++ {
		row := make([]int, classes)
		for k := range row {
			for c := range class {
				if class[c] == k {
					row[k] = find(slowStep(norm, sets[i], byte(c), fold))
				}
			}
		}
		d.Next = append(d.Next, row)
		d.Accept = append(d.Accept, sets[i][len(norm)] == '1')
		if len(sets) > most {
			return api.Dfa{}, false
		}
	}
	return d, true
}

// slowCheck tells whether d is valid, one sentence of the document after the
// other.
func slowCheck(d api.Dfa) bool {
	if len(d.Next) < 1 || len(d.Next) > 256 || len(d.Next) != len(d.Accept) {
		return false
	}
	classes := len(d.Next[0])
	if classes < 1 || len(d.Class) != 256 {
		return false
	}
	for _, class := range d.Class {
		if class < 0 || class >= classes {
			return false
		}
	}
	for _, row := range d.Next {
		if len(row) != classes {
			return false
		}
		for _, state := range row {
			if state < 0 || state >= len(d.Next) {
				return false
			}
		}
	}
	return true
}

// slowRun goes back from the end: which states lead to one that accepts.
func slowRun(d api.Dfa, text string) bool {
	if !slowCheck(d) {
		return false
	}
	good := d.Accept
	for i := len(text) - 1; i >= 0; i-- {
		before := make([]bool, len(good))
		for state := range before {
			before[state] = good[d.Next[state][d.Class[text[i]]]]
		}
		good = before
	}
	return good[0]
}

// texts returns all strings of at most length pieces.
func texts(length int, pieces ...string) []string {
	all, last := []string{""}, []string{""}
	for range length {
		var longer []string
		for _, s := range last {
			for _, piece := range pieces {
				longer = append(longer, s+piece)
			}
		}
		all, last = append(all, longer...), longer
	}
	return all
}
