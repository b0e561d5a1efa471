package json

import (
	"strings"

	"outlaw/api"
	"outlaw/scan"
)

// Read returns the value with which s begins, and its size.
func Read(s string, depth int) (v api.Json, size int, e api.Errno) {
	if depth < 0 || depth > api.MostDepth {
		return api.Json{}, 0, api.ErrArg
	}
	r := &reader{s: s}
	if v, e = r.value(depth); e != api.OK {
		return api.Json{}, 0, e
	}
	return v, r.at, api.OK
}

// Parse returns the value that s consists of.
func Parse(s string) (api.Json, api.Errno) {
	s = s[scan.Space(s):]
	v, size, e := Read(s, api.MostDepth)
	if e != api.OK {
		return api.Json{}, e
	}
	if after := s[size:]; scan.Space(after) < len(after) {
		return api.Json{}, api.ErrBad
	}
	if tooMany(v) {
		return api.Json{}, api.ErrLong
	}
	return v, api.OK
}

// reader reads values from the left: what is before at has been read.
type reader struct {
	s  string
	at int
}

// byFirstByte maps the first byte of a value to what reads it: of a list or an
// object that is the first byte alone.
func byFirstByte() map[byte]func(*reader) (api.Json, api.Errno) {
	return map[byte]func(*reader) (api.Json, api.Errno){
		'"': (*reader).text,
		'-': (*reader).number,
		'0': (*reader).number,
		'1': (*reader).number,
		'2': (*reader).number,
		'3': (*reader).number,
		'4': (*reader).number,
		'5': (*reader).number,
		'6': (*reader).number,
		'7': (*reader).number,
		'8': (*reader).number,
		'9': (*reader).number,
		't': (*reader).yes,
		'f': (*reader).no,
		'n': (*reader).null,
		'[': (*reader).list,
		'{': (*reader).object,
	}
}

func (r *reader) value(depth int) (api.Json, api.Errno) {
	kinds := byFirstByte() // once for all values: a map takes time to make
	var read func(depth int) (api.Json, api.Errno)
	read = func(depth int) (api.Json, api.Errno) {
		if r.ended() {
			return api.Json{}, api.ErrShort
		}
		begin, is := kinds[r.s[r.at]]
		if !is {
			return api.Json{}, api.ErrBad
		}
		v, e := begin(r)
		if e != api.OK || !isNesting(v.Kind) {
			return v, e
		}
		if depth == 0 {
			return api.Json{}, api.ErrDepth
		}
		known := map[string]bool{}
		for !r.pass(closing(v.Kind)) {
			if e = r.ahead(&v, known); e != api.OK {
				return api.Json{}, e
			}
			item, e := read(depth - 1)
			if e != api.OK {
				return api.Json{}, e
			}
			v.Items = append(v.Items, item)
		}
		return v, api.OK
	}
	return read(depth)
}

func closing(kind int) byte {
	if kind == api.JsonObject {
		return '}'
	}
	return ']'
}

// ahead reads what comes before the next value in v: a comma, unless it is the
// first one, and in an object a key, which must not be known.
func (r *reader) ahead(v *api.Json, known map[string]bool) api.Errno {
	if len(v.Items) > 0 {
		if e := r.expect(','); e != api.OK {
			return e
		}
	}
	if v.Kind == api.JsonList {
		return api.OK
	}
	key, e := r.literal()
	if e != api.OK {
		return e
	}
	if known[key] {
		return api.ErrTwice
	}
	known[key] = true
	v.Keys = append(v.Keys, key)
	return r.expect(':')
}

// expect passes over c, and over the blanks before and after it.
func (r *reader) expect(c byte) api.Errno {
	switch {
	case r.pass(c):
		r.skip()
		return api.OK
	case r.ended():
		return api.ErrShort
	}
	return api.ErrBad
}

// pass passes over blanks, and then over c, if that comes next.
func (r *reader) pass(c byte) bool {
	r.skip()
	if r.ended() || r.s[r.at] != c {
		return false
	}
	r.at++
	return true
}

func (r *reader) ended() bool { return r.at == len(r.s) }

func (r *reader) skip() { r.at += scan.Space(r.s[r.at:]) }

func (r *reader) text() (api.Json, api.Errno) {
	text, e := r.literal()
	if e != api.OK {
		return api.Json{}, e
	}
	return api.Json{Kind: api.JsonText, Text: text}, api.OK
}

func (r *reader) literal() (string, api.Errno) {
	text, size, e := scan.Unquote(r.s[r.at:])
	r.at += size
	return text, e
}

func (r *reader) number() (api.Json, api.Errno) {
	n, size, e := scan.ReadNumber(r.s[r.at:])
	if e != api.OK {
		return api.Json{}, e
	}
	r.at += size
	return api.Json{Kind: api.JsonNumber, N: n}, api.OK
}

func (r *reader) yes() (api.Json, api.Errno) {
	return r.word("true", api.Json{Kind: api.JsonBool, N: 1})
}

func (r *reader) no() (api.Json, api.Errno) {
	return r.word("false", api.Json{Kind: api.JsonBool})
}

func (r *reader) null() (api.Json, api.Errno) {
	return r.word("null", api.Json{Kind: api.JsonNull})
}

// word reads the word that stands for v.
func (r *reader) word(word string, v api.Json) (api.Json, api.Errno) {
	rest := r.s[r.at:]
	switch {
	case scan.Word(rest) == word:
		r.at += len(word)
		return v, api.OK
	case strings.HasPrefix(word, rest):
		return api.Json{}, api.ErrShort
	}
	return api.Json{}, api.ErrBad
}

func (r *reader) list() (api.Json, api.Errno) {
	r.at++
	return api.Json{Kind: api.JsonList}, api.OK
}

func (r *reader) object() (api.Json, api.Errno) {
	r.at++
	return api.Json{Kind: api.JsonObject}, api.OK
}
