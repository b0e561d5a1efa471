package glob_test

import (
	"regexp"
	"strings"
)

// slowMatch tells by a table which beginnings of the glob match which
// beginnings of the text.
func slowMatch(p, text string) bool {
	row := make([]bool, len(text)+1) // row[j]: what was gone through of p matches text[:j]
	row[0] = true
	for i := range len(p) {
		next := make([]bool, len(text)+1)
		for j := range next {
			switch {
			case p[i] == '*':
				next[j] = row[j] || j > 0 && next[j-1]
			case j > 0:
				next[j] = row[j-1] && (p[i] == '?' || p[i] == text[j-1])
			}
		}
		row = next
	}
	return row[len(text)]
}

// slowFold replaces letter by letter.
func slowFold(s string) string {
	const capitals = "ABCDEFGHIJKLMNOPQRSTUVWXYZ"
	for i := range capitals {
		s = strings.ReplaceAll(s, capitals[i:i+1], "abcdefghijklmnopqrstuvwxyz"[i:i+1])
	}
	return s
}

var slowRun = regexp.MustCompile(`[*?]+`)

// slowNorm counts what is in each run.
func slowNorm(p string) string {
	return slowRun.ReplaceAllStringFunc(p, func(run string) string {
		normal := strings.Repeat("?", strings.Count(run, "?"))
		if strings.Contains(run, "*") {
			normal += "*"
		}
		return normal
	})
}

// slowLeast writes a shortest text that p matches, and counts its bytes: where
// a * stands it has none.
func slowLeast(p string) int {
	shortest := strings.ReplaceAll(p, "*", "")
	if !slowMatch(p, shortest) {
		panic("the text is not of the form of " + p)
	}
	return len(shortest)
}

// texts returns all strings of at most length pieces.
func texts(length int, pieces ...string) []string {
	all, last := []string{""}, []string{""}
	for range length {
		var longer []string
		for _, s := range last {
			for _, piece := range pieces {
				longer = append(longer, s+piece)
			}
		}
		all, last = append(all, longer...), longer
	}
	return all
}
