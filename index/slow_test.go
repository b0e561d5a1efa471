package index_test

import (
	"strings"

	"outlaw/api"
)

// slowIndex is an index without tables and maps: a place for each number.
type slowIndex struct {
	used [slowNumbers]bool
	p    [slowNumbers]string
	fold [slowNumbers]bool
}

// slowNumbers is how many numbers a slowIndex knows of, from 0 on.
const slowNumbers = 300

func (x *slowIndex) put(id int, p string, fold bool) api.Errno {
	switch {
	case id < 0:
		return api.ErrArg
	case x.used[id]:
		return api.ErrTwice
	case p == "":
		return api.ErrArg
	case len(p) > 255:
		return api.ErrLong
	case x.len() == 200:
		return api.ErrFull
	}
	x.used[id], x.p[id], x.fold[id] = true, p, fold
	return api.OK
}

// drop leaves the glob at its place: only what is used counts.
func (x *slowIndex) drop(id int) api.Errno {
	if id < 0 || !x.used[id] {
		return api.ErrNone
	}
	x.used[id] = false
	return api.OK
}

func (x *slowIndex) match(text string) []int {
	var l []int
	for id, is := range x.used {
		if is && slowMatch(x.p[id], text, x.fold[id]) {
			l = append(l, id)
		}
	}
	return l
}

func (x *slowIndex) has(id int) bool {
	return id >= 0 && x.used[id]
}

func (x *slowIndex) len() int {
	return len(x.list())
}

func (x *slowIndex) list() []api.Glob {
	var l []api.Glob
	for id, is := range x.used {
		if is {
			l = append(l, api.Glob{ID: id, Pattern: x.p[id], Fold: x.fold[id]})
		}
	}
	return l
}

// slowMatch tells by a table which beginnings of the glob match which
// beginnings of the text.
func slowMatch(p, text string, fold bool) bool {
	if fold {
		p, text = slowFold(p), slowFold(text)
	}
	row := make([]bool, len(text)+1) // row[j]: what was gone through of p matches text[:j]
	row[0] = true
	for i := range len(p) {
		next := make([]bool, len(text)+1)
		for j := range next {
			switch {
			case p[i] == '*':
				next[j] = row[j] || j > 0 && next[j-1]
			case j > 0:
				next[j] = row[j-1] && (p[i] == '?' || p[i] == text[j-1])
			}
		}
		row = next
	}
	return row[len(text)]
}

// slowFold replaces letter by letter.
func slowFold(s string) string {
	const capitals = "ABCDEFGHIJKLMNOPQRSTUVWXYZ"
	for i := range capitals {
		s = strings.ReplaceAll(s, capitals[i:i+1], "abcdefghijklmnopqrstuvwxyz"[i:i+1])
	}
	return s
}

// texts returns all strings of at most length pieces.
func texts(length int, pieces ...string) []string {
	all, last := []string{""}, []string{""}
	for range length {
		var longer []string
		for _, s := range last {
			for _, piece := range pieces {
				longer = append(longer, s+piece)
			}
		}
		all, last = append(all, longer...), longer
	}
	return all
}
