package scan_test

import (
	"strings"
	"testing"

	"outlaw/scan"
)

// P1.1: the blanks are four bytes, and no others.
func TestSpaceKnowsFourBytes(t *testing.T) {
	for c := range 256 {
		want := 0
		if c == 9 || c == 10 || c == 13 || c == 32 {
			want = 1
		}
		b := string([]byte{byte(c)})
		if got := scan.Space(b); got != want {
			t.Errorf("byte %d: %d, want %d", c, got, want)
		}
		if got := scan.Space("\t" + b + "x\n"); got != 1+want {
			t.Errorf("byte %d after a blank: %d, want %d", c, got, 1+want)
		}
	}
}

func TestSpace(t *testing.T) {
	for _, x := range []struct {
		s    string
		want int
	}{
		{"", 0},
		{"x", 0},
		{"x ", 0},
		{" \t\r\n", 4},
		{"\n\n  x  ", 4},
		{"\u00a0", 0},
		{"\u2003 ", 0},
		{"\xff ", 0},
		{" \xff ", 1},
		{strings.Repeat(" ", 100000), 100000},
	} {
		if got := scan.Space(x.s); got != x.want {
			t.Errorf("%.20q: %d, want %d", x.s, got, x.want)
		}
	}
}

// P1.2: Word returns the word with which a text begins.
func TestWord(t *testing.T) {
	for _, x := range []struct{ s, want string }{
		{"true", "true"},
		{"false", "false"},
		{"null", "null"},
		{"truefalse", "true"},
		{"false,", "false"},
		{"nullnull", "null"},
		{"null\xff", "null"},
		{"", ""},
		{"t", ""},
		{"tru", ""},
		{"fals", ""},
		{"nul", ""},
		{"trux", ""},
		{"True", ""},
		{"NULL", ""},
		{" true", ""},
		{"xnull", ""},
		{"\"true\"", ""},
		{"undefined", ""},
	} {
		if got := scan.Word(x.s); got != x.want {
			t.Errorf("%q: %q, want %q", x.s, got, x.want)
		}
	}
}
