package ident_test

import (
	"strings"
	"testing"

	"outlaw/api"
	"outlaw/ident"
)

// kindIs checks all that is told of s: it is of that kind, and of no other
// (P4.3), and has a server if it is a user.
func kindIs(t *testing.T, s string, want int) {
	t.Helper()
	if got := ident.Kind(s); got != want {
		t.Errorf("%.300q: kind %d, want %d", s, got, want)
	}
	for _, x := range []struct {
		name string
		is   func(string) bool
		kind int
	}{
		{"User", ident.User, api.IdentUser},
		{"Room", ident.Room, api.IdentRoom},
		{"EventID", ident.EventID, api.IdentEvent},
		{"Server", ident.Server, api.IdentServer},
	} {
		if x.is(s) != (want == x.kind) {
			t.Errorf("%.300q: %s: %v, but its kind is %d", s, x.name, x.is(s), want)
		}
	}
	if want != api.IdentUser {
		serverIs(t, s, "", false)
		return
	}
	serverIs(t, s, slowLower(s[strings.Index(s, ":")+1:]), true)
}

func kindsAre(t *testing.T, want int, all ...string) {
	t.Helper()
	for _, s := range all {
		kindIs(t, s, want)
	}
}

func serverIs(t *testing.T, user, want string, is bool) {
	t.Helper()
	if got, gotIs := ident.ServerOf(user); got != want || gotIs != is {
		t.Errorf("%.300q: server %.300q %v, want %.300q %v", user, got, gotIs, want, is)
	}
}

// The numbers that the document gives.
func TestNumbers(t *testing.T) {
	if api.MostIdent != 255 || api.MostServer != 128 || api.MostEventID != 65 {
		t.Error("limits")
	}
	if api.IdentNone != 0 || api.IdentUser != 1 || api.IdentRoom != 2 || api.IdentEvent != 3 || api.IdentServer != 4 {
		t.Error("kinds")
	}
}

// The examples of the chapter.
func TestExamples(t *testing.T) {
	kindIs(t, "@a:B.org", api.IdentUser)
	serverIs(t, "@a:B.org", "b.org", true)
	kindIs(t, "!r:x:80", api.IdentRoom)
	kindIs(t, "$e", api.IdentEvent)
	kindIs(t, "x.org", api.IdentServer)
	kindIs(t, "@A:b", api.IdentNone)
	kindIs(t, "@a:", api.IdentNone)
}

// P4.1: server names.
func TestServer(t *testing.T) {
	kindsAre(t, api.IdentServer,
		"a", "Z", "0", ".", "-", "--", "..", "x.org", "X-1.Org", "1.2.3.4", "localhost", "80",
		"a:0", "a:00000", "a:99999", "a:1", "a:12", "a:123", "a:1234", "X.ORG:8448", "-:80", ".:80", "8:8",
	)
	kindsAre(t, api.IdentNone,
		"", ":", ":80", "a:", "a:x", "a:-1", "a:+1", "a: 1", "a:1 ", "a:100000", "a:000000", "a:1:2", "a::1", "a:1:", ":a:1", "a:8_0", "a:0x1", "a:٣",
		" ", " a", "a ", "a\n", "a b", "x_org", "x/org", "x=org", "x+org", "x~org", "x,org", "*", "x.*", "?.org", "[::1]", "[::1]:80", "a@b", "@", "!", "$",
		"é", "a.é", "\xff", "a\x80", "\x00", "a\x00", "a:1\n", "\u212a", "ａ", "a\u0301", "a\u00ad",
	)
}

// P4.1: users.
func TestUser(t *testing.T) {
	kindsAre(t, api.IdentUser,
		"@a:b", "@z:Z", "@0:0", "@9:9", "@.:.", "@_:-", "@=:a", "@-:a", "@/:a", "@+:a", "@abc.d_e=f-g/h+i:x.org", "@a:b:80", "@a:B:00001", "@bot:Example.ORG:8448",
	)
	kindsAre(t, api.IdentNone,
		"@", "@a", "@a.b", "@:", "@:b", "@a:", "@:b:80", "@a:b:", "@a::80", "@a:b:c", "@a:b:100000", "@a:b:1:2", "@a::b", "a:@b", "@a:@b", "@@a:b", "@a@b:c",
		"@A:b", "@aB:b", "@Z:b", "@a~:b", "@a!:b", "@a$:b", "@a,:b", "@a*:b", "@a?:b", "@a :b", "@ a:b", " @a:b", "@a:b ", "@a:b\n", "@a\n:b", "\n@a:b",
		"@é:b", "@a:é", "@a\xff:b", "@a:\xff", "@\x00:b", "@a:b\x00", "@a:b_c", "@a:b/c", "@a:*", "@*:b", "＠a:b", "@\u212a:b",
	)
}

// P4.1: rooms.
func TestRoom(t *testing.T) {
	kindsAre(t, api.IdentRoom,
		"!r:x:80", "!a:b", "!Z:Z", "!z:z", "!A:A", "!0:0", "!9:9", "!.:.", "!_:-", "!-:a", "!aB.c_D-9:x.org", "!a:B:00001",
	)
	kindsAre(t, api.IdentNone,
		"!", "!a", "!:", "!:b", "!a:", "!:b:80", "!a:b:", "!a::80", "!a:b:c", "!a:b:100000", "!a:b:1:2", "!a::b", "a:!b", "!a:!b", "!!a:b", "!a!b:c",
		"!a=:b", "!a/:b", "!a+:b", "!a~:b", "!a@:b", "!a$:b", "!a,:b", "!a*:b", "!a :b", "! a:b", " !a:b", "!a:b ", "!a:b\n", "!a\n:b",
		"!é:b", "!a:é", "!a\xff:b", "!a:\xff", "!\x00:b", "!a:b\x00", "!a:b_c", "！a:b", "!\u212a:b", "@!a:b", "!@a:b",
	)
}

// P4.1: IDs of events.
func TestEventID(t *testing.T) {
	kindsAre(t, api.IdentEvent,
		"$e", "$a", "$z", "$A", "$Z", "$0", "$9", "$_", "$-", "$.", "$~", "$/", "$aB9_-.~/", "$abc/def~",
	)
	kindsAre(t, api.IdentNone,
		"$", "$$", "$$e", "e$", "$e$", "$e:x", "$e:x.org", "$:", "$e=", "$e+", "$e,", "$e*", "$e?", "$e!", "$e@", "$e ", "$ e", " $e", "$e\n", "\n$e",
		"$é", "$e\xff", "$\xff", "$\x00", "$e\x00", "$\u212a", "＄e", "e~", "~",
	)
}

// P4.1: the most bytes that each may have, and one more.
func TestLengths(t *testing.T) {
	some := func(count int) string { return strings.Repeat("a", count) }
	kindsAre(t, api.IdentServer,
		some(127), some(128), some(126)+":1", some(122)+":12345", strings.Repeat("A", 128),
	)
	kindsAre(t, api.IdentUser,
		"@"+some(125)+":"+some(128), "@a:"+some(128), "@a:"+some(122)+":12345", "@"+some(252)+":a", "@"+some(250)+":a:1", "@"+some(246)+":a:12345", "@"+some(251)+":a",
	)
	kindsAre(t, api.IdentRoom,
		"!"+some(125)+":"+some(128), "!a:"+some(128), "!a:"+some(122)+":12345", "!"+some(252)+":a", "!"+some(250)+":a:1", "!"+some(246)+":a:12345", "!"+some(251)+":a",
	)
	kindsAre(t, api.IdentEvent,
		"$"+some(63), "$"+some(64),
	)
	kindsAre(t, api.IdentNone,
		some(129), some(127)+":1", some(123)+":12345", some(128)+":", some(1000),
		"@"+some(126)+":"+some(128), "@a:"+some(129), "@a:"+some(123)+":12345", "@"+some(253)+":a", "@"+some(251)+":a:1", "@"+some(247)+":a:12345",
		"!"+some(126)+":"+some(128), "!a:"+some(129), "!a:"+some(123)+":12345", "!"+some(253)+":a", "!"+some(251)+":a:1", "!"+some(247)+":a:12345",
		"$"+some(65), "$"+some(66), "$"+some(1000),
	)
	const many = 1 << 24
	kindsAre(t, api.IdentNone,
		some(many), "@"+some(many)+":a", "!"+some(many)+":a", "$"+some(many), "@a:"+some(many), strings.Repeat(":", many), strings.Repeat("@", many), "a:"+strings.Repeat("1", many),
	)
}

// P4.1: every byte in every part of what would be an identifier.
func TestEveryByte(t *testing.T) {
	for _, parts := range [][2]string{
		{"", ""}, {"a", ""}, {"", "a"}, {"a", "b"}, {"a:", ""}, {"a:1", ""}, {"a:", "2"}, {"", ":1"}, {"a", "1"},
		{"@", ""}, {"@", ":b"}, {"@a", ":b"}, {"@", "a:b"}, {"@a", "b:c"}, {"@a", "b"}, {"@a:", ""}, {"@a:b", ""}, {"@a:", "b"}, {"@a:b:", ""}, {"@a:b:1", ""}, {"@a:b", "1"}, {"", "a:b"}, {"", "@a:b"},
		{"!", ""}, {"!", ":b"}, {"!a", ":b"}, {"!", "a:b"}, {"!a", "b:c"}, {"!a", "b"}, {"!a:", ""}, {"!a:b", ""}, {"!a:", "b"}, {"!a:b:", ""}, {"!a:b:1", ""}, {"!a:b", "1"}, {"", "!a:b"},
		{"$", ""}, {"$a", ""}, {"$", "a"}, {"$a", "b"}, {"", "$a"},
	} {
		for c := range 256 {
			s := parts[0] + string([]byte{byte(c)}) + parts[1]
			want, _ := slowKind(s)
			kindIs(t, s, want)
		}
	}
}

// P4.1 and P4.3: all texts of a few pieces.
func TestAllShortTexts(t *testing.T) {
	pieces := []string{"@", "!", "$", ":", "a", "B", "1", "12345", "_", "=", "~", "/", ".", "é"}
	var try func(s string, more int)
	try = func(s string, more int) {
		want, count := slowKind(s)
		if count > 1 {
			t.Errorf("%q is of %d kinds", s, count)
		}
		kindIs(t, s, want)
		for i := 0; more > 0 && i < len(pieces); i++ {
			try(s+pieces[i], more-1)
		}
	}
	try("", 4)
	for _, ahead := range []string{"@a:", "!B:", "@a:a:", "!a:B:1", "@a", "!a", "$a", "a:"} {
		try(ahead, 3)
	}
}
