package scan_test

import (
	"fmt"
	"strings"
	"testing"
	"unicode/utf8"

	"outlaw/api"
	"outlaw/scan"
)

// P1.1: a text is valid if it is UTF-8 in the shortest form, without surrogates, up to U+10FFFF.
func TestValid(t *testing.T) {
	for _, x := range []struct {
		s    string
		want bool
	}{
		{"", true},
		{"abc", true},
		{"\x00\x1f\x7f", true},
		{"\u0080\u07ff\u0800\uffff\U00010000\U0010ffff", true},
		{"\ufffd", true},
		{"a\ufffdb\ufffd", true},
		{"\ud7ff\ue000", true},
		{"\xff", false},
		{"a\x80", false},
		{"\xc3", false},
		{"\xe2\x82", false},
		{"\xf0\x9f\x98", false},
		{"\xc0\x80", false},
		{"\xc1\xbf", false},
		{"\xe0\x9f\xbf", false},
		{"\xf0\x8f\xbf\xbf", false},
		{"\xed\xa0\x80", false},
		{"\xed\xbf\xbf", false},
		{"\xf4\x90\x80\x80", false},
		{"\xf5\x80\x80\x80", false},
		{"\ufffd\xff", false},
		{"\xff\ufffd", false},
		{"\xef\xbf", false},
		{"ok\xef\xbf\xbd\xbd", false},
	} {
		if got := scan.Valid(x.s); got != x.want {
			t.Errorf("%q: %v", x.s, got)
		}
	}
}

// The bytes at which the ranges of UTF-8 begin and end.
const edges = "\x00\x7f\x80\x8f\x90\x9f\xa0\xbf\xc0\xc1\xc2\xdf\xe0\xe1\xec\xed\xee\xef\xf0\xf1\xf3\xf4\xf5\xff"

func TestValidOfAllShortTexts(t *testing.T) {
	var try func(s string, more int)
	try = func(s string, more int) {
		if scan.Valid(s) != utf8.ValidString(s) {
			t.Errorf("%q: %v", s, scan.Valid(s))
		}
		if _, e := scan.Quote(s); (e == api.OK) != utf8.ValidString(s) {
			t.Errorf("quote of %q: %d", s, e)
		}
		for i := 0; more > 0 && i < len(edges); i++ {
			try(s+edges[i:i+1], more-1)
		}
	}
	try("", 4)
}

// P1.1: the unique form of a literal.
func TestQuote(t *testing.T) {
	for _, x := range []struct {
		s, want string
		e       api.Errno
	}{
		{"", `""`, api.OK},
		{"a\n\"", `"a\n\""`, api.OK},
		{"\b\t\n\f\r", `"\b\t\n\f\r"`, api.OK},
		{"\x00\x01\x07\x0b\x0e\x1a\x1f", `"\u0000\u0001\u0007\u000b\u000e\u001a\u001f"`, api.OK},
		{"\\/'\x7f", "\"\\\\/'\x7f\"", api.OK},
		{"\u00e9\u2028\ufffd\U0001f600", "\"\u00e9\u2028\ufffd\U0001f600\"", api.OK},
		{`\n`, `"\\n"`, api.OK},
		{"<>&", `"<>&"`, api.OK},
		{"\xff", "", api.ErrText},
		{"abc\xc3", "", api.ErrText},
		{"\xed\xa0\x80abc", "", api.ErrText},
		{"\n\xf4\x90\x80\x80", "", api.ErrText},
	} {
		if got, e := scan.Quote(x.s); got != x.want || e != x.e {
			t.Errorf("%q: %q %d, want %q %d", x.s, got, e, x.want, x.e)
		}
	}
}

// form is the unique form of one code point.
func form(r rune) string {
	if short, is := map[rune]string{8: `\b`, 9: `\t`, 10: `\n`, 12: `\f`, 13: `\r`, '"': `\"`, '\\': `\\`}[r]; is {
		return short
	}
	if r < 32 {
		return fmt.Sprintf(`\u%04x`, r)
	}
	return string(r)
}

// P1.1 and P1.3 for every code point: its form, and that it comes back.
func TestEveryCodePoint(t *testing.T) {
	for r := rune(0); r <= utf8.MaxRune; r++ {
		if !utf8.ValidRune(r) {
			continue
		}
		s := string(r)
		lit, e := scan.Quote(s)
		if e != api.OK || lit != `"`+form(r)+`"` {
			t.Errorf("U+%04X: %q %d", r, lit, e)
		}
		checkUnquote(t, lit, s, len(lit), api.OK)
	}
}

func checkUnquote(t *testing.T, s, text string, size int, e api.Errno) {
	t.Helper()
	gotText, gotSize, gotE := scan.Unquote(s)
	if gotText != text || gotSize != size || gotE != e {
		t.Errorf("%q: %q %d %d, want %q %d %d", s, gotText, gotSize, gotE, text, size, e)
	}
}

// P1.1: what a literal stands for.
func TestUnquote(t *testing.T) {
	for _, x := range []struct {
		s, text string
		size    int
	}{
		{`""`, "", 2},
		{`"""`, "", 2},
		{`"a"b"`, "a", 3},
		{`"a" `, "a", 3},
		{`"\"\\\/\b\f\n\r\t"`, "\"\\/\b\f\n\r\t", 18},
		{`"a\"b"c`, `a"b`, 6},
		{`"\\"`, `\`, 4},
		{`"\\u0041"`, `\u0041`, 9},
		{`"\u0041\ud83d\ude00"x`, "A\U0001f600", 20},
		{`"\u0000\u001f\u0022\u005c"`, "\x00\x1f\"\\", 26},
		{`"\uabcd\uABCD\uAbCd"`, "\uabcd\uabcd\uabcd", 20},
		{`"\u00e9x"`, "\u00e9x", 9},
		{`"\u00412"`, "A2", 9},
		{`"\ud7ff\ue000\uffff\ufffd"`, "\ud7ff\ue000\uffff\ufffd", 26},
		{`"\ud800\udc00\uDBFF\uDFFF"`, "\U00010000\U0010ffff", 26},
		{`"\ud83d\ude00\ud83d\ude00"`, "\U0001f600\U0001f600", 26},
		{"\"\ufffd\u00e9\U0001f600\x7f/'\"", "\ufffd\u00e9\U0001f600\x7f/'", 14},
		{"\"ok\"\xff", "ok", 4},
		{"\"ok\"\x00", "ok", 4},
	} {
		checkUnquote(t, x.s, x.text, x.size, api.OK)
	}
}

func TestUnquoteShort(t *testing.T) {
	for _, s := range []string{
		``, `"`, `"a`, `"\`, `"\"`, `"\\`, `"a\`, `"\u`, `"\u0`, `"\u00`, `"\u004`, `"\u0041`,
		`"\ud83d`, `"\ud83d\`, `"\ud83d\u`, `"\ud83d\ud`, `"\ud83d\ud83`, `"\ud83d\ude0`, `"\ud83d\ude00`,
		`"\ud83d\u0`, `"\ud8`, `"\udc0`, "\"\u00e9",
	} {
		checkUnquote(t, s, "", 0, api.ErrShort)
	}
}

func TestUnquoteBad(t *testing.T) {
	for _, s := range []string{
		`x`, `a"`, ` ""`, `\"`, `'a'`, "\xff", "\u00e9", "\x00",
		"\"\x00\"", "\"\x1f\"", "\"a\n\"", "\"\t",
		`"\x"`, `"\a"`, `"\v"`, `"\0"`, `"\U0041"`, `"\'"`, `"\ "`, `"\N"`, "\"\\\n\"", "\"\\\xff", "\"\\\u00e9\"",
		`"\ug`, `"\u0g`, `"\u00g`, `"\u004g`, `"\u"`, `"\u004"`, `"\u00 41"`, `"\u+041"`, "\"\\u004\xff\"", `"\u004\"`,
		`"\u@`, `"\u:`, `"\u/`, "\"\\u`", `"\uG`, "\"\\u\x00",
		`"\ud83d\ug`, `"\ud83d\u"`, `"\ud83d\ude0"`, `"\ud83d\ude0g`, "\"\\ud83d\\u\xff", `"\ud83d\u00g`, `"\ud83d\ud83g`,
		`"\ud83"`, `"\udc0x`,
	} {
		checkUnquote(t, s, "", 0, api.ErrBad)
	}
}

func TestUnquoteText(t *testing.T) {
	for _, s := range []string{
		"\"\xff\"", "\"a\x80\"", "\"\xc3", "\"\xc3\"", "\"\xe2\x82", "\"\xf0\x9f\x98", "\"\xed\xa0\x80\"", "\"\xc0\x80\"", "\"\xf4\x90\x80\x80\"", "\"\xef\xbf\"", "\"\xef\xbf",
		`"\udc00"`, `"\udfff"`, `"\uDE00\ud83d"`, `"a\udc00`, `"\u0041\udc00"`,
		`"\ud83d\ude00\ude00"`,
		`"\ud83d"`, `"\ud83dx`, `"\ud83d "`, "\"\\ud83d\n", "\"\\ud83d\xff", "\"\\ud83d\u00e9", `"\ud83du`,
		`"\ud83d\n"`, `"\ud83d\\u`, `"\ud83d\x`, `"\ud83d\"`, "\"\\ud83d\\\xff", "\"\\ud83d\\\n", `"\ud83d\U`,
		`"\ud83d\u0041"`, `"\ud83d\ud83d\ude00"`, `"\ud83d\ue000"`, `"\ud83d\udbff"`, `"\ud83d\ud7ff`,
		`"\ud800x`, `"\udbff"`,
	} {
		checkUnquote(t, s, "", 0, api.ErrText)
	}
}

// P1.1: of several errors the first from the left is returned.
func TestUnquoteFirstError(t *testing.T) {
	for _, x := range []struct {
		s string
		e api.Errno
	}{
		{"\"\x01\xff", api.ErrBad},
		{"\"\xff\x01", api.ErrText},
		{"\"\\x\xff", api.ErrBad},
		{"\"\xff\\x", api.ErrText},
		{`"\udc00\x`, api.ErrText},
		{`"\x\udc00`, api.ErrBad},
		{`"\udc00\u00`, api.ErrText},
		{`"\ud83d\ude00\`, api.ErrShort},
		{"\"\\ud83d\\ude00\x1f", api.ErrBad},
		{"\"\\ud83d\\ude00\xff", api.ErrText},
		{"x\xff", api.ErrBad},
	} {
		checkUnquote(t, x.s, "", 0, x.e)
	}
}

// Every \u with four digits, in both cases, alone and with a second one.
func TestEveryUnit(t *testing.T) {
	for u := range 0x10000 {
		text, e := string(rune(u)), api.OK
		if u >= 0xd800 && u <= 0xdfff {
			text, e = "", api.ErrText
		}
		for _, digits := range []string{"%04x", "%04X"} {
			size := 8
			if e != api.OK {
				size = 0
			}
			checkUnquote(t, fmt.Sprintf(`"\u`+digits+`"`, u), text, size, e)
		}
		text, size := "", 0
		if u >= 0xdc00 && u <= 0xdfff {
			text, size = string(rune(0x10000+0x155<<10+u-0xdc00)), 14
		}
		if size > 0 {
			checkUnquote(t, fmt.Sprintf(`"\ud955\u%04x"`, u), text, size, api.OK)
		} else {
			checkUnquote(t, fmt.Sprintf(`"\ud955\u%04x"`, u), "", 0, api.ErrText)
		}
		if u >= 0xd800 && u <= 0xdbff {
			want := string(rune(0x10000 + (u-0xd800)<<10 + 0x2aa))
			checkUnquote(t, fmt.Sprintf(`"\u%04x\udeaa"`, u), want, 14, api.OK)
		}
	}
}

// slow reads a literal with a state a byte, as the chapter tells it.
type slow struct {
	out    []byte
	digits string // of a \u; read while inU
	inU    bool
	high   rune // the high surrogate before, or 0
}

const hexDigits = "0123456789abcdef0123456789ABCDEF"

func (l *slow) unit() api.Errno {
	r := rune(0)
	for _, c := range l.digits {
		r = r*16 + rune(strings.IndexRune(hexDigits, c)%16)
	}
	l.digits, l.inU = "", false
	low := r >= 0xdc00 && r <= 0xdfff
	switch {
	case low != (l.high != 0):
		return api.ErrText
	case low:
		r = 0x10000 + (l.high-0xd800)*0x400 + r - 0xdc00
		l.high = 0
	case r >= 0xd800 && r <= 0xdbff:
		l.high = r
		return api.OK
	}
	l.out = append(l.out, string(r)...)
	return api.OK
}

func slowUnquote(s string) (string, int, api.Errno) {
	if s == "" {
		return "", 0, api.ErrShort
	}
	if s[0] != '"' {
		return "", 0, api.ErrBad
	}
	l := &slow{}
	back := false // the byte before was a \ that begins an escape
	for i := 1; i < len(s); {
		c, r, n := s[i], rune(0), 1
		e := api.OK
		switch {
		case l.inU && !strings.Contains(hexDigits, s[i:i+1]):
			e = api.ErrBad
		case l.inU:
			if l.digits += s[i : i+1]; len(l.digits) == 4 {
				e = l.unit()
			}
		case l.high != 0 && !back && c != '\\', l.high != 0 && back && c != 'u':
			e = api.ErrText
		case back && c == 'u':
			back, l.inU = false, true
		case back && strings.IndexByte(`"\/bfnrt`, c) < 0:
			e = api.ErrBad
		case back:
			back = false
			l.out = append(l.out, "\"\\/\b\f\n\r\t"[strings.IndexByte(`"\/bfnrt`, c)])
		case c == '"':
			return string(l.out), i + 1, api.OK
		case c == '\\':
			back = true
		case c < 32:
			e = api.ErrBad
		default:
			if r, n = utf8.DecodeRuneInString(s[i:]); r == utf8.RuneError && n < 3 {
				e = api.ErrText
			}
			l.out = append(l.out, s[i:i+n]...)
		}
		if e != api.OK {
			return "", 0, e
		}
		i += n
	}
	return "", 0, api.ErrShort
}

// P1.1 and P1.3: all texts of a few pieces are read as the slow reader reads
// them, and of what is read no proper prefix is a literal.
func TestUnquoteOfAllShortTexts(t *testing.T) {
	pieces := []string{`"`, `\`, "u", `\u`, "d8", "dc", "00", "4", "D9", "ff", "b", "/", "g", "\x1f", "\xff", "\xc3", "\xa9", "\ufffd", "\xef\xbf"}
	var try func(s string, more int)
	try = func(s string, more int) {
		text, size, e := slowUnquote(s)
		checkUnquote(t, s, text, size, e)
		checkPrefixes(t, s, size)
		for i := 0; more > 0 && i < len(pieces); i++ {
			try(s+pieces[i], more-1)
		}
	}
	try("", 2)
	try(`"`, 4)
	try(`"\ud8`, 3)
	try(`"\ud800`, 4)
	try(`"\ud83d\u`, 4)
}

func checkPrefixes(t *testing.T, s string, size int) {
	t.Helper()
	for i := range size {
		if text, n, e := scan.Unquote(s[:i]); e == api.OK || text != "" || n != 0 {
			t.Errorf("%q, a prefix of %q: %q %d %d", s[:i], s[:size], text, n, e)
		}
	}
}

// P1.3: Unquote of Quote(s) is s, whatever follows; no literal is a proper prefix of another one.
func TestLiteralsComeBack(t *testing.T) {
	pieces := []string{"a", "u", `"`, `\`, "/", "\x00", "\n", "\x1f", "\x7f", "\u00e9", "\ufffd", "\U0001f600", "d800"}
	var try func(s string, more int)
	try = func(s string, more int) {
		lit, e := scan.Quote(s)
		if e != api.OK {
			t.Fatalf("%q: %d", s, e)
		}
		checkUnquote(t, lit, s, len(lit), api.OK)
		checkUnquote(t, lit+`"\`, s, len(lit), api.OK)
		checkPrefixes(t, lit, len(lit))
		for i := 0; more > 0 && i < len(pieces); i++ {
			try(s+pieces[i], more-1)
		}
	}
	try("", 3)
	long := strings.Repeat("\U0001f600\n\"x", 50000)
	lit, _ := scan.Quote(long)
	if text, size, e := scan.Unquote(lit); text != long || size != len(lit) || e != api.OK {
		t.Errorf("a long text: %d bytes, %d %d", len(text), size, e)
	}
}
