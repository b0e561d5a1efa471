package json_test

import (
	stdjson "encoding/json"
	"io"
	"strconv"
	"strings"
	"testing"

	"outlaw/api"
	"outlaw/json"
	"outlaw/scan"
)

// slow reads a value piece by piece, with a stack of what has begun, and with
// a word for what may come next: as the chapter tells it, without recursion.
type slow struct {
	s     string
	at    int
	depth int
	begun []*api.Json
	next  string // of "value", "value]", "key", "key}", ":" and "end"
	done  *api.Json
}

// put adds a value to what has begun last.
func (l *slow) put(v api.Json) {
	if len(l.begun) == 0 {
		l.done = &v
		return
	}
	top := l.begun[len(l.begun)-1]
	top.Items = append(top.Items, v)
	l.next = "end"
}

// end takes what has begun last from the stack, and puts it where it belongs.
func (l *slow) end() {
	last := len(l.begun) - 1
	v := *l.begun[last]
	l.begun = l.begun[:last]
	l.put(v)
	l.at++
}

func (l *slow) value() api.Errno {
	rest := l.s[l.at:]
	c := rest[0]
	switch {
	case c == '[' || c == '{':
		if len(l.begun) == l.depth {
			return api.ErrDepth
		}
		v := &api.Json{Kind: api.JsonList}
		l.next = "value]"
		if c == '{' {
			v.Kind, l.next = api.JsonObject, "key}"
		}
		l.begun = append(l.begun, v)
		l.at++
	case c == '"':
		s, size, e := scan.Unquote(rest)
		if e != api.OK {
			return e
		}
		l.at += size
		l.put(text(s))
	case c == '-' || c >= '0' && c <= '9':
		n, size, e := scan.ReadNumber(rest)
		if e != api.OK {
			return e
		}
		l.at += size
		l.put(number(n))
	default:
		return l.word(rest)
	}
	return api.OK
}

func (l *slow) word(rest string) api.Errno {
	for word, v := range map[string]api.Json{"true": truth(1), "false": truth(0), "null": null()} {
		if rest[0] != word[0] {
			continue
		}
		for i := range len(word) {
			if i == len(rest) {
				return api.ErrShort
			}
			if rest[i] != word[i] {
				return api.ErrBad
			}
		}
		l.at += len(word)
		l.put(v)
		return api.OK
	}
	return api.ErrBad
}

func (l *slow) key() api.Errno {
	key, size, e := scan.Unquote(l.s[l.at:])
	if e != api.OK {
		return e
	}
	top := l.begun[len(l.begun)-1]
	for _, k := range top.Keys {
		if k == key {
			return api.ErrTwice
		}
	}
	top.Keys = append(top.Keys, key)
	l.at += size
	l.next = ":"
	return api.OK
}

func (l *slow) step() api.Errno {
	if len(l.begun) > 0 {
		for l.at < len(l.s) && strings.IndexByte(" \t\r\n", l.s[l.at]) >= 0 {
			l.at++
		}
	}
	if l.at == len(l.s) {
		return api.ErrShort
	}
	c := l.s[l.at]
	switch {
	case c == ']' && l.next == "value]", c == '}' && l.next == "key}":
		l.end()
	case l.next == "value", l.next == "value]":
		return l.value()
	case l.next == "key", l.next == "key}":
		return l.key()
	case l.next == ":" && c == ':':
		l.at++
		l.next = "value"
	case l.next == "end":
		return l.after(c)
	default:
		return api.ErrBad
	}
	return api.OK
}

func (l *slow) after(c byte) api.Errno {
	inList := l.begun[len(l.begun)-1].Kind == api.JsonList
	switch {
	case c == ']' && inList, c == '}' && !inList:
		l.end()
		return api.OK
	case c != ',':
		return api.ErrBad
	}
	l.at++
	l.next = "key"
	if inList {
		l.next = "value"
	}
	return api.OK
}

func slowRead(s string, depth int) (api.Json, int, api.Errno) {
	l := &slow{s: s, depth: depth, next: "value"}
	for l.done == nil {
		if e := l.step(); e != api.OK {
			return api.Json{}, 0, e
		}
	}
	return *l.done, l.at, api.OK
}

// library reads a whole text with the library's own reader, and reports
// whether that found one value.
func library(s string) (api.Json, bool) {
	d := stdjson.NewDecoder(strings.NewReader(s))
	d.UseNumber()
	v, is := libraryValue(d)
	if _, err := d.Token(); !is || err != io.EOF || !stdjson.Valid([]byte(s)) {
		return api.Json{}, false
	}
	return v, true
}

func libraryValue(d *stdjson.Decoder) (api.Json, bool) {
	token, err := d.Token()
	if err != nil {
		return api.Json{}, false
	}
	switch x := token.(type) {
	case nil:
		return null(), true
	case bool:
		if x {
			return truth(1), true
		}
		return truth(0), true
	case string:
		return text(x), true
	case stdjson.Number:
		n, err := strconv.ParseInt(x.String(), 10, 64)
		return number(n), err == nil && x != "-0"
	}
	v := list()
	if token == stdjson.Delim('{') {
		v = object("")
	}
	for d.More() {
		if v.Kind == api.JsonObject {
			key, err := d.Token()
			k, is := key.(string)
			if err != nil || !is {
				return api.Json{}, false
			}
			v.Keys = append(v.Keys, k)
		}
		x, is := libraryValue(d)
		if !is {
			return api.Json{}, false
		}
		v.Items = append(v.Items, x)
	}
	_, err = d.Token()
	return v, err == nil
}

// hasTwice reports whether an object in v has a key twice.
func hasTwice(v api.Json) bool {
	for i, k := range v.Keys {
		for _, other := range v.Keys[:i] {
			if k == other {
				return true
			}
		}
	}
	for _, x := range v.Items {
		if hasTwice(x) {
			return true
		}
	}
	return false
}

// checkText holds Read and Parse against the two other readers, and P2.4.
func checkText(t *testing.T, s string) {
	t.Helper()
	for _, depth := range []int{0, 1, 2, 3, api.MostDepth} {
		v, size, e := json.Read(s, depth)
		wantV, wantSize, wantE := slowRead(s, depth)
		if size != wantSize || e != wantE || !json.Same(v, wantV) {
			t.Errorf("%q at %d: %s %d %d, want %s %d %d", s, depth, show(v), size, e, show(wantV), wantSize, wantE)
		}
		if e == api.OK && (json.Depth(v) > depth || json.Check(v) != api.OK) {
			t.Errorf("%q at %d: %s is not valid", s, depth, show(v))
		}
	}
	v, e := json.Parse(s)
	if e == api.OK && json.Check(v) != api.OK {
		t.Errorf("%q: %s is not valid", s, show(v))
	}
	later, laterE := json.Parse("\n\t " + s)
	if laterE != e || !json.Same(later, v) {
		t.Errorf("%q: %d, after blanks %d", s, e, laterE)
	}
	wide, wideE := json.Parse(" \n" + s + " \r\t")
	if (wideE == api.OK) != (e == api.OK) || !json.Same(wide, v) {
		t.Errorf("%q: %d, between blanks %d", s, e, wideE)
	}
	checkLibrary(t, s, v, e)
}

// checkLibrary passes over what the library reads in another way: keys that
// are there twice, and surrogates that are alone, in whose place it puts U+FFFD.
func checkLibrary(t *testing.T, s string, v api.Json, e api.Errno) {
	t.Helper()
	want, is := library(s)
	same := is == (e == api.OK) && json.Same(v, want)
	switch {
	case is && strings.Contains(show(want), "\ufffd"):
		same = same || e == api.ErrText
	case is && hasTwice(want):
		same = e == api.ErrTwice
	}
	if !same {
		t.Errorf("%q: %s %d, the library reads %s", s, show(v), e, show(want))
	}
}

// P2.2 to P2.4: all texts of a few pieces.
func TestAllShortTexts(t *testing.T) {
	pieces := []string{"[", "]", "{", "}", ",", ":", " ", "1", "-", "0", `"a"`, `"b"`, `"\u0061"`, `"`, "true", "nul", "x", "\v"}
	var try func(s string, more int)
	try = func(s string, more int) {
		checkText(t, s)
		for i := 0; more > 0 && i < len(pieces); i++ {
			try(s+pieces[i], more-1)
		}
	}
	try("", 3)
	for _, ahead := range []string{"[", "[1", "[1,", "[[", "[{", "{", `{"a"`, `{"a":`, `{"a":1`, `{"a":1,`, `{"a":{`, `{"a":[],"b":1`, `[[[[[[[`, `{"a":{"b":[{`} {
		try(ahead, 3)
	}
}

// P2.2 to P2.4: texts that are changed in one place.
func TestChangedTexts(t *testing.T) {
	const s = ` {"a":[1, true ,null],"b\n":{ "a":-12,"":[[],{}]} , "c":"\ud83d\ude00","d":false}`
	checkText(t, s)
	for i := range len(s) {
		checkText(t, s[:i])
		checkText(t, s[i:])
		checkText(t, s[:i]+s[i+1:])
		for _, c := range " []{},:\"-01atfn\\\x01" {
			checkText(t, s[:i]+string(c)+s[i:])
			checkText(t, s[:i]+string(c)+s[i+1:])
		}
	}
}
