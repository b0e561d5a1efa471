package ident

import "strings"

// mostPort is how many digits a port may have.
const mostPort = 5

// Lower returns s with A to Z replaced by a to z. It goes byte by byte, since
// s may be no valid text, and since other letters stay as they are.
func Lower(s string) string {
	lower := []byte(s)
	for i, c := range lower {
		if 'A' <= c && c <= 'Z' {
			lower[i] = c - 'A' + 'a'
		}
	}
	return string(lower)
}

func isHost(s string) bool {
	return hasOnly(s, lettersAnd(".-", true))
}

func isPort(s string) bool {
	return len(s) <= mostPort && hasOnly(s, func(c byte) bool {
		return '0' <= c && c <= '9'
	})
}

// lettersAnd returns what tells the bytes of a part: letters, among which A to
// Z count only if there are capitals, digits, and marks.
func lettersAnd(marks string, capitals bool) func(c byte) bool {
	return func(c byte) bool {
		switch {
		case 'a' <= c && c <= 'z', '0' <= c && c <= '9':
			return true
		case 'A' <= c && c <= 'Z':
			return capitals
		default:
			return strings.IndexByte(marks, c) >= 0
		}
	}
}

// hasOnly reports whether s has at least one byte, and only such as is tells.
func hasOnly(s string, is func(c byte) bool) bool {
	for i := range len(s) {
		if !is(s[i]) {
			return false
		}
	}
	return len(s) > 0
}
