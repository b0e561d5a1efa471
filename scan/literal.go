package scan

import (
	"strings"
	"unicode/utf8"

	"outlaw/api"
)

// A byte of escaped is written as a \ and the letter at the same place.
const (
	letters = "bfnrt"
	escaped = "\b\f\n\r\t"
)

// The sizes of escapes in bytes, each with its \.
const (
	shortSize = 2
	unitSize  = 6
	pairSize  = 12
)

// Valid reports whether s is UTF-8.
func Valid(s string) bool {
	for i, r := range s {
		if broken(s[i:], r) {
			return false
		}
	}
	return true
}

// broken tells apart the two things for which a range over a string gives
// U+FFFD: that code point itself, and bytes with which none begins.
func broken(s string, r rune) bool {
	return r == utf8.RuneError && !strings.HasPrefix(s, string(utf8.RuneError))
}

// Quote returns the literal of s in the unique form.
func Quote(s string) (string, api.Errno) {
	if !Valid(s) {
		return "", api.ErrText
	}
	var b strings.Builder
	b.WriteByte('"')
	for _, r := range s {
		writeQuoted(&b, r)
	}
	b.WriteByte('"')
	return b.String(), api.OK
}

func writeQuoted(b *strings.Builder, r rune) {
	const hex = "0123456789abcdef"
	i := strings.IndexRune(escaped, r)
	switch {
	case i >= 0:
		b.WriteByte('\\')
		b.WriteByte(letters[i])
	case r < ' ':
		b.WriteString("\\u00")
		b.WriteByte(hex[r>>4])
		b.WriteByte(hex[r&15])
	case r == '"' || r == '\\':
		b.WriteByte('\\')
		fallthrough
	default:
		b.WriteRune(r)
	}
}

// Unquote returns the text of the literal with which s begins, and its size.
func Unquote(s string) (text string, size int, e api.Errno) {
	if s == "" {
		return "", 0, api.ErrShort
	}
	if s[0] != '"' {
		return "", 0, api.ErrBad
	}
	var b strings.Builder
	next := 1 // an escape is read at its \: the rest of it is passed over
	for i, r := range s {
		switch {
		case i < next:
		case r == '"':
			return b.String(), i + 1, api.OK
		case r < ' ':
			return "", 0, api.ErrBad
		case broken(s[i:], r):
			return "", 0, api.ErrText
		case r == '\\':
			if r, size, e = unescape(s[i:]); e != api.OK {
				return "", 0, e
			}
			next = i + size
			fallthrough
		default:
			b.WriteRune(r)
		}
	}
	return "", 0, api.ErrShort
}

// unescape decodes the escape with which s begins. Its first byte is the \.
func unescape(s string) (r rune, size int, e api.Errno) {
	if len(s) < shortSize {
		return 0, 0, api.ErrShort
	}
	c := s[1]
	switch c {
	case 'u':
		return unescapeUnits(s)
	case 'b', 'f', 'n', 'r', 't':
		c = escaped[strings.IndexByte(letters, c)]
		fallthrough
	case '"', '\\', '/':
		return rune(c), shortSize, api.OK
	}
	return 0, 0, api.ErrBad
}

// unescapeUnits decodes the \u, or the two of them, with which s begins.
func unescapeUnits(s string) (r rune, size int, e api.Errno) {
	r, e = unit(s[2:])
	size = unitSize
	switch {
	case e != api.OK:
		return 0, 0, e
	case isLow(r):
		return 0, 0, api.ErrText
	case isHigh(r):
		low, err := lowUnit(s[unitSize:])
		if err != api.OK {
			return 0, 0, err
		}
		r = 0x10000 + (r-0xd800)<<10 + (low - 0xdc00)
		size = pairSize
		fallthrough
	default:
		return r, size, api.OK
	}
}

// lowUnit reads the \u that a high surrogate requires. No other escape, and
// nothing else, makes a code point of what stands before: hence ErrText.
func lowUnit(s string) (rune, api.Errno) {
	const head = "\\u"
	for i := range len(head) {
		if i == len(s) {
			return 0, api.ErrShort
		}
		if s[i] != head[i] {
			return 0, api.ErrText
		}
	}
	r, e := unit(s[len(head):])
	if e != api.OK {
		return 0, e
	}
	if !isLow(r) {
		return 0, api.ErrText
	}
	return r, api.OK
}

// unit reads four hexadecimal digits.
func unit(s string) (rune, api.Errno) {
	r := rune(0)
	for i := range 4 {
		if i == len(s) {
			return 0, api.ErrShort
		}
		d, is := hexDigit(s[i])
		if !is {
			return 0, api.ErrBad
		}
		r = r<<4 | d
	}
	return r, api.OK
}

func hexDigit(c byte) (rune, bool) {
	switch {
	case c >= '0' && c <= '9':
		return rune(c - '0'), true
	case c >= 'a' && c <= 'f':
		return rune(c - 'a' + 10), true
	case c >= 'A' && c <= 'F':
		return rune(c - 'A' + 10), true
	}
	return 0, false
}

func isHigh(r rune) bool { return r >= 0xd800 && r <= 0xdbff }

func isLow(r rune) bool { return r >= 0xdc00 && r <= 0xdfff }
