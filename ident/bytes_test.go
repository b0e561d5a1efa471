package ident_test

import (
	"strings"
	"testing"
	"unsafe"

	"outlaw/ident"
)

// lowerIs checks that lower is what s becomes, and stays (P4.3).
func lowerIs(t *testing.T, s, want string) {
	t.Helper()
	got := ident.Lower(s)
	if got != want {
		t.Errorf("%.300q: %.300q, want %.300q", s, got, want)
	}
	if again := ident.Lower(got); again != got {
		t.Errorf("%.300q: %.300q, and then %.300q", s, got, again)
	}
}

// P4.2: A to Z are replaced, and nothing else is.
func TestLower(t *testing.T) {
	for _, x := range []struct{ s, want string }{
		{"", ""},
		{"a", "a"},
		{"A", "a"},
		{"Z", "z"},
		{"B.org", "b.org"},
		{"X-1.ORG:80", "x-1.org:80"},
		{"ABCDEFGHIJKLMNOPQRSTUVWXYZ", "abcdefghijklmnopqrstuvwxyz"},
		{"abcdefghijklmnopqrstuvwxyz0123456789", "abcdefghijklmnopqrstuvwxyz0123456789"},
		{"@[`{", "@[`{"},
		{"É\u0130\u212aΣЖǅ", "É\u0130\u212aΣЖǅ"},
		{"AÉB", "aÉb"},
		{"\xc1\xda\x80\xff", "\xc1\xda\x80\xff"},
		{"A\xffB\xc3", "a\xffb\xc3"},
		{"\xed\xa0\x80Q\xf4\x90\x80\x80", "\xed\xa0\x80q\xf4\x90\x80\x80"},
		{"\x00A\x00", "\x00a\x00"},
		{"A B\nC\tD\x7f", "a b\nc\td\x7f"},
	} {
		lowerIs(t, x.s, x.want)
	}
}

// P4.2 and P4.3: every two bytes, and every code point.
func TestLowerOfEach(t *testing.T) {
	for a := range 256 {
		for b := range 256 {
			s := string([]byte{byte(a), byte(b)})
			lowerIs(t, s, slowLower(s))
		}
	}
	for r := range rune(0x110000) {
		s := string(r)
		if r >= 'A' && r <= 'Z' {
			continue
		}
		if got := ident.Lower(s); got != s {
			t.Fatalf("%q: %q", s, got)
		}
	}
}

// P4.2: a long text.
func TestLowerOfLong(t *testing.T) {
	const many = 1 << 20
	lowerIs(t, strings.Repeat("Ab\xff", many), strings.Repeat("ab\xff", many))
}

// P4.2: the server of a user, and nothing of what is none.
func TestServerOf(t *testing.T) {
	for _, x := range []struct{ user, want string }{
		{"@a:b", "b"},
		{"@a:B.org", "b.org"},
		{"@a:B.ORG:8448", "b.org:8448"},
		{"@x.y_z=1-2/3+4:A-Z.0", "a-z.0"},
		{"@a:0:00000", "0:00000"},
		{"@a:" + strings.Repeat("A", 128), strings.Repeat("a", 128)},
		{"@" + strings.Repeat("a", 252) + ":Z", "z"},
	} {
		serverIs(t, x.user, x.want, true)
	}
	for _, s := range []string{
		"", "@", "@a", "@a:", "@:b", "@A:b", "a:b", "b.org", "b.org:80", "!r:x", "!r:x:80", "$e", "@a:b:", "@a:b:x", "@a:b:100000", "@a:b ", " @a:b", "@a:\xff", "@é:b",
		"@a:" + strings.Repeat("a", 129), "@" + strings.Repeat("a", 253) + ":z",
	} {
		serverIs(t, s, "", false)
	}
}

// Rule 3: results share no memory with what was passed.
func TestNewMemory(t *testing.T) {
	for _, s := range []string{"@a:b.org", "@a:B.org"} {
		server, _ := ident.ServerOf(s)
		for _, got := range []string{server, ident.Lower(s)} {
			if within(got, s) {
				t.Errorf("%q is a piece of what was passed", got)
			}
		}
	}
}

// within reports whether the bytes of piece lie in those of s.
func within(piece, s string) bool {
	for i := range len(s) {
		if unsafe.StringData(s[i:]) == unsafe.StringData(piece) {
			return true
		}
	}
	return false
}
