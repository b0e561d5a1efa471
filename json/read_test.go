package json_test

import (
	"fmt"
	"math"
	"strings"
	"testing"

	"outlaw/api"
	"outlaw/json"
	"outlaw/jsontest"
)

func readIs(t *testing.T, s string, depth int, v api.Json, size int, e api.Errno) {
	t.Helper()
	gotV, gotSize, gotE := json.Read(s, depth)
	if show(gotV) != show(v) || gotSize != size || gotE != e {
		t.Errorf("%.80q at %d: %.200s %d %d, want %.200s %d %d", s, depth, show(gotV), gotSize, gotE, show(v), size, e)
	}
}

func parseIs(t *testing.T, s string, v api.Json, e api.Errno) {
	t.Helper()
	if gotV, gotE := json.Parse(s); show(gotV) != show(v) || gotE != e {
		t.Errorf("%.80q: %.200s %d, want %.200s %d", s, show(gotV), gotE, show(v), e)
	}
}

func readFails(t *testing.T, e api.Errno, texts ...string) {
	t.Helper()
	for _, s := range texts {
		readIs(t, s, api.MostDepth, api.Json{}, 0, e)
		parseIs(t, s, api.Json{}, e)
		parseIs(t, " \n"+s, api.Json{}, e)
	}
}

// The examples of the chapter.
func TestExamples(t *testing.T) {
	parseIs(t, `{"a":[1,true]}`, object("a", list(number(1), truth(1))), api.OK)
	parseIs(t, `{"a":1,"a":2}`, api.Json{}, api.ErrTwice)
	readIs(t, `[[]]`, 1, api.Json{}, 0, api.ErrDepth)
	readIs(t, `{"a":[1,true]}`, 2, object("a", list(number(1), truth(1))), 14, api.OK)
	readIs(t, `{"a":1,"a":2}`, 1, api.Json{}, 0, api.ErrTwice)
	readIs(t, `[[]]`, 2, list(list()), 4, api.OK)
}

// P2.2: the value with which a text begins, and how many bytes it has.
func TestRead(t *testing.T) {
	for _, x := range []struct {
		s    string
		v    api.Json
		size int
	}{
		{`null`, null(), 4},
		{`true`, truth(1), 4},
		{`false`, truth(0), 5},
		{`nullnull`, null(), 4},
		{`truex`, truth(1), 4},
		{`false]`, truth(0), 5},
		{`0`, number(0), 1},
		{`-12,`, number(-12), 3},
		{`1.5`, number(1), 1},
		{`9007199254740991`, number(api.MostNumber), 16},
		{`-9007199254740991`, number(-api.MostNumber), 17},
		{`""`, text(""), 2},
		{`"a\n\u0041\ud83d\ude00"x`, text("a\nA\U0001f600"), 23},
		{"\"\x7f\u00e9\" ", text("\x7f\u00e9"), 5},
		{`[]`, list(), 2},
		{`[ ]]`, list(), 3},
		{"[\t\n\r ]", list(), 6},
		{`[1]`, list(number(1)), 3},
		{`[1,2,3]`, list(number(1), number(2), number(3)), 7},
		{"[ \n1\t, \"a\"\r,null ,true]", list(number(1), text("a"), null(), truth(1)), 23},
		{`[[],[[]],{}]`, list(list(), list(list()), object("")), 12},
		{`{}`, object(""), 2},
		{`{ }}`, object(""), 3},
		{`{"a":1}`, object("a", number(1)), 7},
		{"{ \"a\"\n:\t1\r, \"b\" : {\"a\":[ ] } } ", object("a b", number(1), object("a", list())), 30},
		{`{"b":1,"a":2,"":3}`, api.Json{Kind: api.JsonObject, Keys: []string{"b", "a", ""}, Items: []api.Json{number(1), number(2), number(3)}}, 18},
		{`{"a":{"a":{"a":1}},"b":{"a":2}}`, object("a b", object("a", object("a", number(1))), object("a", number(2))), 31},
		{`[{"a":1},{"a":1}]`, list(object("a", number(1)), object("a", number(1))), 17},
		{`{"\u0061":1,"A":2,"a ":3}`, api.Json{Kind: api.JsonObject, Keys: []string{"a", "A", "a "}, Items: []api.Json{number(1), number(2), number(3)}}, 25},
		{`[]x`, list(), 2},
		{"{}\xff", object(""), 2},
		{`[]]]`, list(), 2},
	} {
		readIs(t, x.s, api.MostDepth, x.v, x.size, api.OK)
		readIs(t, x.s[:x.size], json.Depth(x.v), x.v, x.size, api.OK)
		readIs(t, x.s+`"[{`, api.MostDepth, x.v, x.size, api.OK)
		parseIs(t, x.s[:x.size], x.v, api.OK)
		parseIs(t, " \t\r\n"+x.s[:x.size]+"\n\r\t ", x.v, api.OK)
	}
}

// P2.2: the depth is looked at first.
func TestReadDepthArgument(t *testing.T) {
	for _, depth := range []int{-1, 9, 10, math.MaxInt, math.MinInt} {
		for _, s := range []string{``, `1`, `x`, `[]`, `[`, ` `} {
			readIs(t, s, depth, api.Json{}, 0, api.ErrArg)
		}
	}
	for depth := range 9 {
		readIs(t, ``, depth, api.Json{}, 0, api.ErrShort)
		readIs(t, ` 1`, depth, api.Json{}, 0, api.ErrBad)
		readIs(t, `1`, depth, number(1), 1, api.OK)
	}
}

// P2.2: a list or an object at depth 0 is too deep, whatever is in it.
func TestReadTooDeep(t *testing.T) {
	for depth := range 9 {
		for n := 1; n <= 10; n++ {
			v, e := nestedLists(n), api.OK
			size := 2 * n
			if n > depth {
				v, e, size = api.Json{}, api.ErrDepth, 0
			}
			readIs(t, strings.Repeat("[", n)+strings.Repeat("]", n), depth, v, size, e)
		}
		readIs(t, strings.Repeat(`{"a":`, depth)+`[`, depth, api.Json{}, 0, api.ErrDepth)
		readIs(t, strings.Repeat(`[`, depth)+`{`, depth, api.Json{}, 0, api.ErrDepth)
		readIs(t, strings.Repeat(`{"a": [ `, depth/2)+`1`+strings.Repeat(`]}`, depth/2), depth/2*2, func() api.Json {
			v := number(1)
			for range depth / 2 {
				v = object("a", list(v))
			}
			return v
		}(), depth/2*10+1, api.OK)
	}
	readIs(t, `[`, 0, api.Json{}, 0, api.ErrDepth)
	readIs(t, `{x`, 0, api.Json{}, 0, api.ErrDepth)
	readIs(t, `[]`, 0, api.Json{}, 0, api.ErrDepth)
	readIs(t, `[1,[x`, 1, api.Json{}, 0, api.ErrDepth)
	readIs(t, `[x,[`, 1, api.Json{}, 0, api.ErrBad)
	readIs(t, `[[1],[[`, 2, api.Json{}, 0, api.ErrDepth)
	parseIs(t, `[[[[[[[[]]]]]]]]`, nestedLists(8), api.OK)
	parseIs(t, `[[[[[[[[[]]]]]]]]]`, api.Json{}, api.ErrDepth)
	parseIs(t, `[[[[[[[[1,{}]]]]]]]]`, api.Json{}, api.ErrDepth)
	parseIs(t, strings.Repeat(`[`, 1000000), api.Json{}, api.ErrDepth)
	parseIs(t, strings.Repeat(`{"":`, 1000000), api.Json{}, api.ErrDepth)
}

// P2.2: texts that end too early.
func TestReadShort(t *testing.T) {
	readFails(t, api.ErrShort,
		``, `t`, `tr`, `tru`, `f`, `fa`, `fal`, `fals`, `n`, `nu`, `nul`,
		`-`, `"`, `"a`, `"\`, `"\u00`, `"\ud83d`,
		`[`, `[ `, "[\n", `[1`, `[12`, `[1 `, `[1,`, `[1, `, `[[]`, `[[],`, `[[`, `[[1`, `["a`, `[t`, `[nul`, `[-`, `[1,fals`, `[{`, `[{}`, `["a"`,
		`{`, `{ `, `{"`, `{"a`, `{"a"`, `{"a" `, `{"a":`, `{"a": `, `{"a":1`, `{"a":1 `, `{"a":1,`, `{"a":1, `, `{"a":1,"`, `{"a":1,"a`, `{"a":1,"b"`, `{"a":1,"b":`,
		`{"a":{`, `{"a":{}`, `{"a":tru`, `{"a":-`, `{"a":"`, `{"a":[`, `{"a":[]`, `{"\ud83d`, `{"\`,
	)
}

// P2.2: bytes that are not allowed where they are.
func TestReadBad(t *testing.T) {
	readFails(t, api.ErrBad,
		`x`, `]`, `}`, `,`, `:`, `+1`, `.5`, `'a'`, `\`, "\x00", "\xff", "\u00e9", "\ufeff1", "\v1", "/", "T", "N",
		`trux`, `tx`, `t `, `tru `, `tru"`, `False`, `fx`, `falsy`, `fals]`, `nil`, `nulL`, `nu ll`, "n\xff",
		`01`, `-0`, `-x`, `--1`, `- 1`, `-,`,
		"\"\x1f\"", `"\x"`, `"\ug`,
		`[,`, `[:`, `[}`, `[,1]`, `[x`, "[\xff", "[\v", `[tx`, `[01]`, `[-]`, `["\x"]`,
		`[1 2`, `[1:`, `[1}`, `[1"a"]`, `[1x`, `[1[`, `[1.5]`, `[1e5]`, `["a":1]`, `[null null`, `[truefalse]`, "[1\v", "[1\xff",
		`[1,]`, `[1, ]`, `[1,,`, `[1,}`, `[1,:`, `[1,x`, `[[1,],`, `[[1}`, `[{]`, `[[}`,
		`{,`, `{:`, `{]`, `{1`, `{1:2}`, `{x`, `{a:1}`, `{[`, `{{`, `{t`, `{null:1}`, `{-`, "{\xff", "{\v", "{'a'", `{\`,
		`{"a"1`, `{"a",`, `{"a"}`, `{"a" }`, `{"a"]`, `{"a""`, `{"a" x`, `{"a";`, `{"a"[`,
		`{"a":}`, `{"a":,`, `{"a"::`, `{"a":]`, `{"a":x`, `{"a":tx`, `{"a":-x`, `{"a":01}`,
		`{"a":1]`, `{"a":1:`, `{"a":1 2`, `{"a":1"b"`, `{"a":1x`, `{"a":1.5}`, `{"a":1{`, "{\"a\":1\xff",
		`{"a":1,}`, `{"a":1, }`, `{"a":1,,`, `{"a":1,]`, `{"a":1,b`, `{"a":1,1`, `{"a":1,[`, `{"a":1,t`, `{"a":1,:`,
		"{\"\n\":1}", `{"\x":1}`,
	)
}

// P2.2: the errors of texts and numbers come through, wherever these are.
func TestReadErrorsOfTokens(t *testing.T) {
	for s, e := range map[string]api.Errno{
		"\"\xff":                api.ErrText,
		"\"\xff\"":              api.ErrText,
		`"\udc00"`:              api.ErrText,
		`"\ud83dx`:              api.ErrText,
		"\"\x00":                api.ErrBad,
		`"\q`:                   api.ErrBad,
		`"abc`:                  api.ErrShort,
		`9007199254740992`:      api.ErrLong,
		`-9007199254740992`:     api.ErrLong,
		`100000000000000000000`: api.ErrLong,
		`00`:                    api.ErrBad,
		`-01`:                   api.ErrBad,
		`-`:                     api.ErrShort,
	} {
		readFails(t, e, s, `[`+s, `[1, `+s, `[[],{"a":[`+s, `{"a":`+s, `{"a":1,"b": `+s)
		if s[0] == '"' {
			readFails(t, e, `{`+s, `{ "a":1 , `+s, `[{`+s)
		}
		readIs(t, s, 0, api.Json{}, 0, e)
	}
}

// P2.2: a key that occurred before is told as soon as its literal has been read.
func TestReadTwice(t *testing.T) {
	readFails(t, api.ErrTwice,
		`{"a":1,"a":2}`, `{"a":1,"a"`, `{"a":1,"a"x`, `{"a":1, "a" :`, `{"a":1,"b":2,"a"`, `{"a":1,"b":2,"b"`,
		`{"a":1,"\u0061"`, `{"\u0061":1,"a"`, `{"":1,""`, `{"\/":1,"/"`, `{"\ud83d\ude00":1,"`+"\U0001f600"+`"`,
		`{"a":{"b":1},"a"`, `{"a":{"b":1,"b"`, `[{"b":1,"b"`, `[{"b":1},{"c":{"d":[]},"c"`,
		`{"a":1,"a":x`, `{"a":1,"a":"`, `{"a":1,"a"}`, `{"a":1,"a",`,
	)
	readFails(t, api.ErrBad, `{"a":1 "a"`, `{"a":x,"a"`, `{"a" "a"`)
	readFails(t, api.ErrShort, `{"a":1,"a`)
	readFails(t, api.ErrText, "{\"a\":1,\"a\xff")
	readIs(t, `{"a":[],"a"`, 1, api.Json{}, 0, api.ErrDepth)
	readIs(t, `{"a":1,"a":[]}`, 1, api.Json{}, 0, api.ErrTwice)
}

// P2.2: every first byte, alone and before others.
func TestReadFirstByte(t *testing.T) {
	for c := range 256 {
		s, v, size, e := string([]byte{byte(c)}), api.Json{}, 0, api.ErrBad
		switch {
		case c >= '0' && c <= '9':
			v, size, e = number(int64(c-'0')), 1, api.OK
		case strings.Contains(`"-tfn[{`, s):
			e = api.ErrShort
		}
		readIs(t, s, 1, v, size, e)
		readIs(t, s, 8, v, size, e)
		if e != api.OK {
			readIs(t, s+"\x01", 8, api.Json{}, 0, api.ErrBad)
		}
	}
}

func many(n int, open, each, end string) string {
	return open + strings.TrimSuffix(strings.Repeat(each+",", n), ",") + end
}

// P2.3: what consists of more than one value, or of too many.
func TestParse(t *testing.T) {
	parseIs(t, "", api.Json{}, api.ErrShort)
	parseIs(t, " \t\r\n", api.Json{}, api.ErrShort)
	parseIs(t, " \t\r\n1 \t\r\n", number(1), api.OK)
	for _, s := range []string{`1 2`, `1,`, `[]]`, `[] []`, `{}}`, `""""`, `"a"x`, `truefalse`, `nulll`, `1.5`, `1e3`, "1\x00", "1\v", "1\xff", `null,`, "1 \u00a0", "[]\n\x00", "\v1", "\u00a01"} {
		parseIs(t, s, api.Json{}, api.ErrBad)
		parseIs(t, " "+s+" ", api.Json{}, api.ErrBad)
	}
	for n := 395; n < 405; n++ {
		s, v, e := many(n, "[", "null", "]"), api.Json{Kind: api.JsonList}, api.OK
		for range n {
			v.Items = append(v.Items, null())
		}
		readIs(t, s, 1, v, len(s), api.OK)
		parseIs(t, s+"x", api.Json{}, api.ErrBad)
		parseIs(t, s+" ]", api.Json{}, api.ErrBad)
		parseIs(t, s[:len(s)-1], api.Json{}, api.ErrShort)
		if n+1 > 400 {
			v, e = api.Json{}, api.ErrLong
		}
		parseIs(t, s, v, e)
		parseIs(t, "  "+s+"\n", v, e)
	}
	if v, e := json.Parse(many(199, `{"a":1,"b":[`, "[]", "]}") + " "); e != api.OK || json.Count(v) != 202 {
		t.Error(json.Count(v), e)
	}
	if v, e := json.Parse(many(199, `[`, "[1]", "]")); e != api.OK || json.Count(v) != 399 {
		t.Error(json.Count(v), e)
	}
	parseIs(t, many(200, `[`, "[1]", "]"), api.Json{}, api.ErrLong)
	parseIs(t, many(200, `[`, `{"a":1}`, "]"), api.Json{}, api.ErrLong)
}

// T7: long texts take time by their length alone.
func TestReadLong(t *testing.T) {
	const n = 300000
	var b strings.Builder
	b.WriteByte('{')
	for i := range n {
		fmt.Fprintf(&b, "\"%d\":%d,\n ", i, i)
	}
	s := b.String() + `"x":[]}`
	v, size, e := json.Read(s, 2)
	if e != api.OK || size != len(s) || len(v.Keys) != n+1 || len(v.Items) != n+1 || v.Keys[n-1] != fmt.Sprint(n-1) || v.Items[n-1].N != n-1 {
		t.Errorf("%d of %d, %d", size, len(s), e)
	}
	parseIs(t, s, api.Json{}, api.ErrLong)
	readIs(t, b.String()+`"0"`, 2, api.Json{}, 0, api.ErrTwice)
	readIs(t, b.String()+`"x"`, 2, api.Json{}, 0, api.ErrShort)
	long := strings.Repeat("a", n)
	readIs(t, `["`+long+`"]`, 1, list(text(long)), n+4, api.OK)
	readIs(t, `[`+strings.Repeat("9", n), 1, api.Json{}, 0, api.ErrLong)
	parseIs(t, strings.Repeat(" ", n)+"1"+strings.Repeat(" ", n), number(1), api.OK)
}

// Rule 3: no two slices of a value that was read share memory.
func TestReadIsNew(t *testing.T) {
	s := `{"a":[[],[1],{"b":[1,2,3],"c":{}}],"d":[1,2,3,4,5]}`
	v, _, _ := json.Read(s, 8)
	w, _, _ := json.Read(s, 8)
	x, _ := json.Parse(s)
	y, _ := json.Parse(s)
	if !jsontest.Apart(v, w, x, y) {
		t.Error("shared memory")
	}
}
