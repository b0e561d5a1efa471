package glob_test

import (
	"math/rand"
	"strings"
	"testing"
	"unsafe"

	"outlaw/api"
	"outlaw/glob"
)

const huge = 1 << 20

// everyByte has each byte once.
func everyByte() string {
	all := make([]byte, 256)
	for c := range all {
		all[c] = byte(c)
	}
	return string(all)
}

// formsAre checks what is told of p without a text, and that it stays (P7.3).
func formsAre(t *testing.T, p, norm string, least int, isLiteral bool) {
	t.Helper()
	if got := glob.Norm(p); got != norm {
		t.Errorf("%.300q: normal form %.300q, want %.300q", p, got, norm)
	}
	if got := glob.Norm(norm); got != norm {
		t.Errorf("%.300q: %.300q once, and then %.300q", p, norm, got)
	}
	for _, same := range []string{p, norm} {
		if got := glob.Least(same); got != least {
			t.Errorf("%.300q: least %d, want %d", same, got, least)
		}
		literal := ""
		if isLiteral {
			literal = same
		}
		if got, is := glob.Literal(same); got != literal || is != isLiteral {
			t.Errorf("%.300q: literal %.300q %v, want %v", same, got, is, isLiteral)
		}
	}
}

// matchIs checks a glob, and its normal form (P7.3).
func matchIs(t *testing.T, p, text string, fold, want bool) {
	t.Helper()
	for _, same := range []string{p, glob.Norm(p)} {
		if got := glob.Match(same, text, fold); got != want {
			t.Errorf("%.300q, %.300q, fold %v: %v, want %v", same, text, fold, got, want)
		}
	}
}

// bothMatchesAre checks p against the second way, in both variants.
func bothMatchesAre(t *testing.T, p, text string) {
	t.Helper()
	matchIs(t, p, text, false, slowMatch(p, text))
	matchIs(t, p, text, true, slowMatch(slowFold(p), slowFold(text)))
}

// The numbers that the document gives.
func TestNumbers(t *testing.T) {
	if api.MostGlob != 255 || api.ErrArg != 2 || api.ErrLong != 4 {
		t.Error("numbers")
	}
}

// The examples of the chapter, and that of the whole.
func TestExamples(t *testing.T) {
	matchIs(t, "@*:x.org", "@a:x.org", false, true)
	matchIs(t, "a?c", "ac", false, false)
	matchIs(t, "?*?", "ab", false, true)
}

// P7.1: what is a glob, of whichever bytes.
func TestCheck(t *testing.T) {
	for _, x := range []struct {
		p    string
		want api.Errno
	}{
		{"", api.ErrArg},
		{"a", api.OK},
		{"*", api.OK},
		{"?", api.OK},
		{" ", api.OK},
		{"\x00", api.OK},
		{"\xff", api.OK},
		{"@*:x.org", api.OK},
		{everyByte()[1:], api.OK},
		{everyByte(), api.ErrLong},
		{strings.Repeat("a", 254), api.OK},
		{strings.Repeat("a", 255), api.OK},
		{strings.Repeat("a", 256), api.ErrLong},
		{strings.Repeat("*", 255), api.OK},
		{strings.Repeat("*", 256), api.ErrLong},
		{strings.Repeat("?", 256), api.ErrLong},
		{strings.Repeat("é", 127), api.OK},
		{strings.Repeat("é", 128), api.ErrLong},
		{strings.Repeat("\xff", 255), api.OK},
		{strings.Repeat("\x00", 256), api.ErrLong},
		{strings.Repeat("a", huge), api.ErrLong},
	} {
		if got := glob.Check(x.p); got != x.want {
			t.Errorf("%.300q of %d bytes: %d, want %d", x.p, len(x.p), got, x.want)
		}
	}
}

// P7.1: a text is matched as a whole, byte by byte.
func TestMatch(t *testing.T) {
	for _, x := range []struct {
		p, text string
		want    bool
	}{
		{"", "", true}, {"", "a", false}, {"a", "", false}, {"*", "", true}, {"?", "", false}, {"**", "", true}, {"*?", "", false},
		{"a", "a", true}, {"a", "b", false}, {"a", "aa", false}, {"aa", "a", false}, {"a", "ba", false}, {"a", "ab", false},
		{"?", "a", true}, {"?", "ab", false}, {"??", "a", false}, {"??", "ab", true}, {"a?", "a", false}, {"?a", "a", false},
		{"*", "a", true}, {"*", "abc", true}, {"a*", "a", true}, {"a*", "abc", true}, {"a*", "ba", false}, {"*a", "a", true}, {"*a", "cba", true}, {"*a", "ab", false},
		{"a*b", "ab", true}, {"a*b", "acb", true}, {"a*b", "abab", true}, {"a*b", "aba", false}, {"a*a", "a", false}, {"a*a", "aa", true},
		{"*a*", "bab", true}, {"*a*", "bcb", false}, {"*a*b*", "ba", false}, {"*a*b*", "xaybz", true}, {"*ab", "aab", true}, {"*aab", "aaab", true}, {"*abab", "abaabab", true},
		{"a*b*c", "abbcbc", true}, {"a*b*c", "abbcb", false}, {"*ab*cd*", "acbabdccdx", true}, {"a**b", "ab", true}, {"a*?b", "ab", false}, {"a*?b", "aab", true}, {"a?*b", "axxb", true},
		{"@eve:*", "@eve:evil.com", true}, {"@eve:*", "@eve2:evil.com", false}, {"*.evil.com", "evil.com", false}, {"*.evil.com", "a.b.evil.com", true}, {"*evil.com", "notevil.com", true},
		{"a", "A", false}, {"A", "a", false}, {"*A", "a", false},
		{"*", "\n", true}, {"?", "\n", true}, {"a\nb", "a\nb", true}, {"*", "\x00\xff", true},
		{"?", "é", false}, {"??", "é", true}, {"???", "\u2014", true}, {"?", "\xff", true}, {"\xc3?", "é", true}, {"*\xa9", "é", true}, {"\xff", "\xff", true}, {"\xff", "\xfe", false}, {"\ufffd", "\xff", false},
		{"*", "*", true}, {"?", "?", true}, {"?", "*", true}, {"a", "*", false}, {"a", "?", false}, {"a*", "a*", true}, {"a?c", "a?c", true}, {"a?c", "a*c", true}, {"a*c", "a*", false}, {"ab", "a?", false}, {"ab", "*", false},
		{"[a]", "a", false}, {"[a]", "[a]", true}, {"\\*", "*", false}, {"\\*", "\\x", true}, {"\\?", "?", false}, {"a.c", "abc", false}, {"a|b", "a", false}, {"{a,b}", "a", false}, {"{a,b}", "{a,b}", true}, {"^a$", "a", false}, {"a/*", "a/b/c", true}, {"*", "a/b", true}, {"*", ".a", true},
	} {
		matchIs(t, x.p, x.text, false, x.want)
		if slowMatch(x.p, x.text) != x.want {
			t.Errorf("%q, %q: the second way says otherwise", x.p, x.text)
		}
	}
}

// P7.1: with fold, A to Z count as a to z on both sides, and nothing else does.
func TestMatchFold(t *testing.T) {
	for _, x := range []struct {
		p, text string
		want    bool
	}{
		{"", "", true}, {"a", "A", true}, {"A", "a", true}, {"A", "A", true}, {"a", "a", true}, {"a", "B", false}, {"Z", "z", true}, {"z", "Z", true},
		{"EVIL.com", "evil.COM", true}, {"*.Evil.com", "a.eVIL.COM", true}, {"E?IL*", "eViLx", true}, {"*aB*", "xxAbyy", true}, {"*AAB", "aAab", true},
		{"@", "`", false}, {"`", "@", false}, {"[", "{", false}, {"{", "[", false}, {"0", "P", false}, {"!", "A", false}, {"\x01", "a", false}, {"\x01", "A", false},
		{"\xc1", "\xe1", false}, {"\xe1", "\xc1", false}, {"\xc1", "a", false}, {"É", "é", false}, {"É", "É", true}, {"k", "\u212a", false}, {"s", "ſ", false}, {"ß", "SS", false},
		{"*", "A", true}, {"?", "A", true}, {"?", "?", true}, {"*", "*", true}, {"A", "?", false}, {"J", "*", false}, {"*", "J", true},
	} {
		matchIs(t, x.p, x.text, true, x.want)
		if slowMatch(slowFold(x.p), slowFold(x.text)) != x.want {
			t.Errorf("%q, %q: the second way says otherwise", x.p, x.text)
		}
	}
}

// P7.1: every byte of a glob against every byte of a text.
func TestMatchEveryByte(t *testing.T) {
	for c := range 256 {
		for d := range 256 {
			p, text := string([]byte{byte(c)}), string([]byte{byte(d)})
			bothMatchesAre(t, p, text)
			bothMatchesAre(t, "*"+p+"x", "xX"+text+"x")
		}
	}
}

// P7.1 to P7.3: all short globs, and all short texts.
func TestAllShort(t *testing.T) {
	all := texts(6, "a", "b")
	for _, p := range texts(6, "a", "b", "*", "?") {
		least := -1
		for _, text := range all { // shorter ones come first
			is := slowMatch(p, text)
			matchIs(t, p, text, false, is)
			if is && least < 0 {
				least = len(text)
			}
		}
		formsAre(t, p, slowNorm(p), least, !strings.ContainsAny(p, "*?"))
	}
}

// P7.1 to P7.3: all short globs and texts in which case matters, and in which
// texts have the bytes that stand for others.
func TestAllShortFold(t *testing.T) {
	all := texts(4, "a", "A", "B", "*", "?")
	for _, p := range texts(4, "a", "A", "b", "*", "?") {
		for _, text := range all {
			bothMatchesAre(t, p, text)
		}
		formsAre(t, p, slowNorm(p), slowLeast(p), !strings.ContainsAny(p, "*?"))
	}
}

// P7.1 to P7.3: longer globs, and texts of their form or nearly so. The seed
// is fixed, so that each run is the same.
func TestLonger(t *testing.T) {
	r := rand.New(rand.NewSource(7))
	some := func(letters string, most int) string {
		b := make([]byte, r.Intn(most+1))
		for i := range b {
			b[i] = letters[r.Intn(len(letters))]
		}
		return string(b)
	}
	matched := 0
	for range 40000 {
		p := some("aabAB?**", 24)
		text := ""
		for i := range len(p) {
			switch p[i] {
			case '*':
				text += some("abAB", 4)
			case '?':
				text += string("abAB*?"[r.Intn(6)])
			default:
				text += p[i : i+1]
			}
		}
		matchIs(t, p, text, false, true)
		matchIs(t, p, text, true, true)
		if len(text) > 0 {
			at := r.Intn(len(text))
			text = text[:at] + some("abAB", 1) + text[at+1:]
		}
		bothMatchesAre(t, p, text)
		if slowMatch(p, text) {
			matched++
		}
		formsAre(t, p, slowNorm(p), slowLeast(p), !strings.ContainsAny(p, "*?"))
	}
	if matched < 4000 || matched > 36000 {
		t.Errorf("%d of the texts that are nearly of the form match: too one-sided", matched)
	}
}

// P7.1: no glob is too long for Match, and none makes it try everything.
func TestMatchLong(t *testing.T) {
	some := strings.Repeat("a", huge)
	for _, x := range []struct {
		p, text string
		want    bool
	}{
		{some, some, true},
		{some, some[1:], false},
		{some[1:], some, false},
		{some + "b", some + "a", false},
		{strings.Repeat("?", huge), some, true},
		{strings.Repeat("?", huge+1), some, false},
		{strings.Repeat("*", huge), some, true},
		{strings.Repeat("*", huge), "", true},
		{strings.Repeat("*", huge) + "b", some, false},
		{strings.Repeat("*a", huge), some, true},
		{strings.Repeat("*a", huge) + "a", some, false},
		{strings.Repeat("a*", huge) + "b", some, false},
		{strings.Repeat("*?", huge), some, true},
		{strings.Repeat("*?", huge+1), some, false},
		{strings.Repeat("*a", 1000) + "*b", some, false},
		{strings.Repeat("*a", 1000) + "*b", some + "b", true},
		{strings.Repeat("?*", 100) + "b*", some, false},
		{"*" + strings.Repeat("a", 253) + "b", some[:1<<16], false},
		{"*" + strings.Repeat("a", 253) + "b", some[:1<<16] + "b", true},
		{"a*", some, true},
		{"*", some, true},
		{"", some, false},
	} {
		matchIs(t, x.p, x.text, false, x.want)
		matchIs(t, x.p, strings.ToUpper(x.text), true, x.want)
	}
}

// P7.2: normal forms, the least numbers of bytes, and what is a literal.
func TestForms(t *testing.T) {
	for _, x := range []struct {
		p, norm   string
		least     int
		isLiteral bool
	}{
		{"", "", 0, true},
		{"a", "a", 1, true},
		{"AbC", "AbC", 3, true},
		{"x.org", "x.org", 5, true},
		{"é", "é", 2, true},
		{"\xff\x00\\[", "\xff\x00\\[", 4, true},
		{"*", "*", 0, false},
		{"?", "?", 1, false},
		{"**", "*", 0, false},
		{"??", "??", 2, false},
		{"*?", "?*", 1, false},
		{"?*", "?*", 1, false},
		{"?*?", "??*", 2, false},
		{"*?*", "?*", 1, false},
		{"*?*?*", "??*", 2, false},
		{"???***", "???*", 3, false},
		{"***???", "???*", 3, false},
		{"a*", "a*", 1, false},
		{"*a", "*a", 1, false},
		{"a?", "a?", 2, false},
		{"?a", "?a", 2, false},
		{"a*?b", "a?*b", 3, false},
		{"a**b*?*c??", "a*b?*c??", 6, false},
		{"*a*?*?b?*", "*a??*b?*", 5, false},
		{"*\xff**\x00", "*\xff*\x00", 2, false},
		{"*é?*é", "*é?*é", 5, false},
		{"@*:X.org", "@*:X.org", 7, false},
		{everyByte(), everyByte(), 255, false},
		{strings.Repeat("a", huge), strings.Repeat("a", huge), huge, true},
		{strings.Repeat("a", huge) + "*", strings.Repeat("a", huge) + "*", huge, false},
		{strings.Repeat("*", huge), "*", 0, false},
		{strings.Repeat("*?", huge), strings.Repeat("?", huge) + "*", huge, false},
		{strings.Repeat("*a", huge), strings.Repeat("*a", huge), huge, false},
	} {
		formsAre(t, x.p, x.norm, x.least, x.isLiteral)
		if got := slowNorm(x.p); got != x.norm {
			t.Errorf("%.300q: the second way says %.300q", x.p, got)
		}
	}
}

// P7.2 and P7.3: every byte beside those that stand for others.
func TestFormsOfEachByte(t *testing.T) {
	for c := range 256 {
		s := string([]byte{byte(c)})
		for _, p := range []string{s, s + s, "*" + s, s + "*", "?" + s, s + "?", "*" + s + "?", "?*" + s + "*?", "*?" + s + "?*?" + s} {
			formsAre(t, p, slowNorm(p), slowLeast(p), !strings.ContainsAny(p, "*?"))
		}
	}
}

// P7.3: a literal matches only itself; with fold, what has the same Fold.
func TestLiteralMatches(t *testing.T) {
	all := texts(3, "a", "A", "b", "\xc1", "\xe1", "@", "`", "*", "?")
	for _, p := range all {
		literal, is := glob.Literal(p)
		if !is {
			continue
		}
		for _, text := range all {
			matchIs(t, literal, text, false, p == text)
			matchIs(t, literal, text, true, glob.Fold(p) == glob.Fold(text))
		}
	}
}

// P7.1: A to Z are replaced, and nothing else is, nowhere in the text.
func TestFold(t *testing.T) {
	for _, x := range []struct{ s, want string }{
		{"", ""},
		{"a", "a"},
		{"A", "a"},
		{"Z", "z"},
		{"*?A", "*?a"},
		{"Evil.COM:80", "evil.com:80"},
		{"ABCDEFGHIJKLMNOPQRSTUVWXYZ", "abcdefghijklmnopqrstuvwxyz"},
		{"abcdefghijklmnopqrstuvwxyz0123456789", "abcdefghijklmnopqrstuvwxyz0123456789"},
		{"@[`{", "@[`{"},
		{"AÉ\u0130\u212aΣЖB", "aÉ\u0130\u212aΣЖb"},
		{"\xc1\xda\x80\xff", "\xc1\xda\x80\xff"},
		{"A\xffB\xc3", "a\xffb\xc3"},
		{"\x00A\x00", "\x00a\x00"},
		{strings.Repeat("Ab\xff", huge), strings.Repeat("ab\xff", huge)},
	} {
		foldIs(t, x.s, x.want)
	}
	for c := range 256 {
		for d := range 256 {
			s := string([]byte{byte(c), byte(d)})
			foldIs(t, s, slowFold(s))
		}
	}
}

func foldIs(t *testing.T, s, want string) {
	t.Helper()
	got := glob.Fold(s)
	if got != want {
		t.Errorf("%.300q: %.300q, want %.300q", s, got, want)
	}
	if again := glob.Fold(got); again != got {
		t.Errorf("%.300q: %.300q, and then %.300q", s, got, again)
	}
}

// Rule 3: results share no memory with what was passed, even if they are equal.
func TestNewMemory(t *testing.T) {
	for _, p := range []string{"abc", "x.org", "Abc", "ab*", "a??*"} {
		literal, _ := glob.Literal(p)
		for _, got := range []string{literal, glob.Norm(p), glob.Fold(p)} {
			if isWithin(got, p) {
				t.Errorf("%q of %q is a piece of what was passed", got, p)
			}
		}
	}
}

// isWithin reports whether the bytes of piece lie in those of s.
func isWithin(piece, s string) bool {
	for i := range len(s) {
		if unsafe.StringData(s[i:]) == unsafe.StringData(piece) {
			return true
		}
	}
	return false
}
