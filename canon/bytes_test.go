package canon_test

import (
	"slices"
	"strings"
	"testing"

	"outlaw/api"
	"outlaw/canon"
	"outlaw/json"
	"outlaw/jsontest"
)

func bytesAre(t *testing.T, v api.Json, want string, e api.Errno) {
	t.Helper()
	if got, gotE := canon.Bytes(v); got != want || gotE != e {
		t.Errorf("%.200s: %q %d, want %q %d", show(v), got, gotE, want, e)
	}
}

// The examples of the chapter.
func TestExamples(t *testing.T) {
	v, _ := json.Parse(`{ "b" : 1 , "a" : [ ] }`)
	bytesAre(t, v, `{"a":[],"b":1}`, api.OK)
	if c := canon.Canon(v); show(c) != show(object("a b", list(), number(1))) {
		t.Error(show(c))
	}
}

// P3.1: the bytes of each kind of value.
func TestBytes(t *testing.T) {
	for _, x := range []struct {
		v    api.Json
		want string
	}{
		{null(), `null`},
		{truth(0), `false`},
		{truth(1), `true`},
		{number(0), `0`},
		{number(-12), `-12`},
		{number(api.MostNumber), `9007199254740991`},
		{number(-api.MostNumber), `-9007199254740991`},
		{text(""), `""`},
		{text("a/é\u2028<\U0001f600\x7f"), "\"a/é\u2028<\U0001f600\x7f\""},
		{text("\"\\\b\t\n\f\r\x00\x1f\x0b"), `"\"\\\b\t\n\f\r\u0000\u001f\u000b"`},
		{list(), `[]`},
		{list(null()), `[null]`},
		{list(number(2), number(1), list(), object("")), `[2,1,[],{}]`},
		{object(""), `{}`},
		{object("b a", null(), object("d c", list(), number(3))), `{"a":{"c":3,"d":[]},"b":null}`},
		{object("b aa a B", null(), null(), null(), null()), `{"B":null,"a":null,"aa":null,"b":null}`},
		{with(api.JsonObject, []string{"\n", "", "é\"", " "}, number(1), number(2), number(3), number(4)), `{"":2,"\n":1," ":4,"é\"":3}`},
		{object("\U00010000 \uffff", number(1), number(2)), "{\"\uffff\":2,\"\U00010000\":1}"},
		{with(api.JsonObject, []string{`"`, "#", "!"}, null(), null(), null()), `{"!":null,"\"":null,"#":null}`},
		{jsontest.NestedLists(8), `[[[[[[[[]]]]]]]]`},
		{list(slices.Repeat([]api.Json{number(1)}, 399)...), "[" + strings.Repeat("1,", 398) + "1]"},
	} {
		bytesAre(t, x.v, x.want, api.OK)
	}
}

// P3.1: the error of json.Check comes with no bytes.
func TestBytesOfInvalid(t *testing.T) {
	for _, x := range []struct {
		v api.Json
		e api.Errno
	}{
		{api.Json{}, api.ErrKind},
		{list(null(), api.Json{Kind: 7}), api.ErrKind},
		{truth(2), api.ErrArg},
		{number(api.MostNumber + 1), api.ErrArg},
		{object("a b", null()), api.ErrArg},
		{text("\xff"), api.ErrText},
		{object("b a\xff", null(), null()), api.ErrText},
		{object("b a b", null(), null(), null()), api.ErrTwice},
		{jsontest.NestedLists(9), api.ErrDepth},
		{list(slices.Repeat([]api.Json{null()}, 400)...), api.ErrLong},
		{list(api.Json{}, jsontest.NestedLists(8)), api.ErrDepth},
		{list(text("\xff"), truth(2)), api.ErrText},
	} {
		bytesAre(t, x.v, "", x.e)
	}
	for _, v := range samples() {
		want := ""
		e := json.Check(v)
		if e == api.OK {
			want = slowText(slowCanon(v))
		}
		bytesAre(t, v, want, e)
	}
}

// P3.1: the bytes are compared, of which what is not valid has none.
func TestCompare(t *testing.T) {
	for _, x := range []struct {
		a, b api.Json
		want int
	}{
		{number(10), number(9), -1},
		{number(9), number(10), 1},
		{number(1), number(10), -1},
		{number(-1), number(0), -1},
		{text("a"), text("ab"), -1}, // " is before b
		{text("a"), text("a!"), 1},  // but after !
		{text("\x01"), text("Z"), 1},
		{text("\uffff"), text("\U00010000"), -1},
		{text("a"), number(1), -1},
		{null(), truth(0), 1},
		{truth(0), truth(1), -1},
		{list(), object(""), -1},
		{list(null()), list(), 1},
		{list(number(1), number(2)), list(number(1)), -1}, // , is before ]
		{object("b a", number(1), number(2)), object("a b", number(2), number(1)), 0},
		{object("a b", number(1), number(2)), object("b a", number(1), number(2)), -1},
		{api.Json{}, null(), -1},
		{text(""), text("\xff"), 1},
		{api.Json{}, text("\xff"), 0},
		{truth(2), jsontest.NestedLists(9), 0},
		{object("a a", null(), null()), object("a", null()), -1},
	} {
		if got := canon.Compare(x.a, x.b); got != x.want {
			t.Errorf("%.100s and %.100s: %d", show(x.a), show(x.b), got)
		}
		if got := canon.Compare(x.b, x.a); got != -x.want {
			t.Errorf("%.100s and %.100s: %d", show(x.b), show(x.a), got)
		}
	}
}

// P3.1 and P3.3 for each two of many values: they have the same bytes if they
// are equal except for the order of their keys, and otherwise not.
func TestEachTwo(t *testing.T) {
	all := samples()
	bytes, forms := make([]string, len(all)), make([]string, len(all))
	for i, v := range all {
		bytes[i], _ = canon.Bytes(v)
		forms[i] = show(slowCanon(v))
	}
	for i := range all {
		for j := range all {
			valid := bytes[i] != "" && bytes[j] != ""
			if valid && (bytes[i] == bytes[j]) != (forms[i] == forms[j]) {
				t.Errorf("%s and %s: %q and %q", forms[i], forms[j], bytes[i], bytes[j])
			}
		}
		if i%10 > 0 {
			continue
		}
		for j := range i {
			if got := canon.Compare(all[i], all[j]); got != strings.Compare(bytes[i], bytes[j]) {
				t.Errorf("%s and %s: %d", forms[i], forms[j], got)
			}
		}
	}
}

// P3.1: texts that are the bytes of a value, and some that are not.
func TestIs(t *testing.T) {
	for _, s := range []string{
		`null`, `true`, `false`, `0`, `-1`, `9007199254740991`, `""`, `"a b"`, "\"é\u2028\x7f/\"", `"\n\u0000\u001f\\\""`,
		`[]`, `{}`, `[1,"a",[],{}]`, `{"a":1}`, `{"":1,"a":2,"b":3}`, `{"B":1,"a":{"a":1,"b":2}}`, `{"a":1,"aa":2}`,
		"{\"\uffff\":2,\"\U00010000\":1}", `{"\u0000":1," ":2}`, `{"\n":1,"!":2,"\"":3,"#":4}`,
		`[[[[[[[[]]]]]]]]`, "[" + strings.Repeat("1,", 398) + "1]",
	} {
		if !canon.Is(s) {
			t.Errorf("%q: not", s)
		}
	}
	for _, s := range []string{
		``, ` `, ` null`, `null `, "null\n", `[ ]`, `[1, 2]`, `[1 ,2]`, `{ }`, `{"a": 1}`, `{"a" :1}`, `{"a":1} `,
		`{"b":1,"a":2}`, `{"a":{"b":1,"a":2}}`, `[{"b":1,"a":2}]`, `{"aa":1,"a":2}`, `{"a":1,"B":2}`, "{\"\U00010000\":1,\"\uffff\":2}",
		`{"!":1,"\n":2}`, `{"a":1,"a":1}`, `{"a":1,"\u0061":1}`, `{"\u0061":1}`, `"\u0041"`, `"\/"`, `"\u000a"`, `"\u001F"`, `"\u00e9"`, `"\ud83d\ude00"`,
		"\"\xff\"", "\"\n\"", `nul`, `True`, `-0`, `01`, `1.0`, `1e1`, `+1`, `9007199254740992`, `[1,]`, `[`, `{"a"}`, `nullx`, `null null`, `'a'`, `a`,
		`[[[[[[[[[]]]]]]]]]`, "[" + strings.Repeat("1,", 399) + "1]", "\ufeffnull", "\x00",
	} {
		if canon.Is(s) {
			t.Errorf("%q: is", s)
		}
	}
}

// P3.1: Is for all texts of a few pieces.
func TestIsOfAllShortTexts(t *testing.T) {
	pieces := []string{"[", "]", "{", "}", ",", ":", " ", "1", "-", "0", `"a"`, `"b"`, `"\u0061"`, `"\n"`, "null"}
	var try func(s string, more int)
	try = func(s string, more int) {
		v, e := json.Parse(s)
		want := e == api.OK && slowText(slowCanon(v)) == s
		if canon.Is(s) != want {
			t.Errorf("%q: %v", s, !want)
		}
		for i := 0; more > 0 && i < len(pieces); i++ {
			try(s+pieces[i], more-1)
		}
	}
	try("", 4)
	for _, ahead := range []string{`[{"a":`, `{"a":1,`, `{"b":1,`, `{"a":1,"b":{"b":1,`} {
		try(ahead, 4)
	}
}

// P3.3: parsing the bytes gives the canonical form.
func TestBytesComeBack(t *testing.T) {
	count := 0
	for _, v := range samples() {
		s, e := canon.Bytes(v)
		if e != api.OK {
			continue
		}
		count++
		if got, e := json.Parse(s); e != api.OK || show(got) != show(canon.Canon(v)) {
			t.Errorf("%s: %q is %s %d", show(v), s, show(got), e)
		}
		if !canon.Is(s) || canon.Is(s+" ") || canon.Is(" "+s) {
			t.Errorf("%q: which texts are the bytes of a value", s)
		}
	}
	if count < 100 {
		t.Errorf("only %d values are valid", count)
	}
}

// P3.3: every order of the keys leads to the same bytes.
func TestEveryOrder(t *testing.T) {
	keys := []string{"", "a", "é", "aa", "\x01"}
	const want = `{"":0,"\u0001":4,"a":1,"aa":3,"é":2}`
	var order func(v api.Json)
	order = func(v api.Json) {
		if len(v.Keys) == len(keys) {
			bytesAre(t, v, want, api.OK)
			bytesAre(t, list(v), "["+want+"]", api.OK)
			if canon.Is(slowText(v)) != (slowText(v) == want) {
				t.Error(slowText(v))
			}
			return
		}
		for i, key := range keys {
			if !slices.Contains(v.Keys, key) {
				order(with(api.JsonObject, append(slices.Clone(v.Keys), key), append(slices.Clone(v.Items), number(int64(i)))...))
			}
		}
	}
	order(object(""))
}
