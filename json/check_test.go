package json_test

import (
	"fmt"
	"math"
	"slices"
	"testing"

	"outlaw/api"
	"outlaw/json"
)

func checkIs(t *testing.T, v api.Json, want api.Errno) {
	t.Helper()
	if got := json.Check(v); got != want {
		t.Errorf("%.200s: %d, want %d", show(v), got, want)
	}
}

// P2.1: valid values of each kind, up to the limits.
func TestCheckValid(t *testing.T) {
	for _, v := range []api.Json{
		null(),
		truth(0),
		truth(1),
		number(0),
		number(api.MostNumber),
		number(-api.MostNumber),
		text(""),
		text("\x00\u00e9\ufffd\U0010ffff"),
		list(),
		list(null(), truth(1), number(-7), text("a"), list(), object("")),
		object(""),
		object("a b", null(), object("a b", null(), null())),
		{Kind: api.JsonObject, Keys: []string{"", "\x00", "\u00e9", "e\u0301"}, Items: []api.Json{null(), null(), null(), null()}},
		{Kind: api.JsonNull, Keys: []string{}, Items: []api.Json{}},
		{Kind: api.JsonText, Keys: make([]string, 0, 4), Items: make([]api.Json, 0, 4)},
		{Kind: api.JsonList, Keys: []string{}, Items: []api.Json{}},
		nestedLists(api.MostDepth),
		list(slices.Repeat([]api.Json{null()}, api.MostNodes-1)...),
	} {
		checkIs(t, v, api.OK)
	}
}

func TestCheckKind(t *testing.T) {
	for _, kind := range []int{0, -1, 7, 8, 100, math.MaxInt, math.MinInt} {
		checkIs(t, api.Json{Kind: kind}, api.ErrKind)
		checkIs(t, list(null(), api.Json{Kind: kind}), api.ErrKind)
		checkIs(t, object("a", api.Json{Kind: kind}), api.ErrKind)
		checkIs(t, api.Json{Kind: kind, N: 5, Text: "\xff", Keys: []string{"a", "a"}, Items: []api.Json{{}}}, api.ErrKind)
	}
}

// P2.1: the numbers that each kind may have.
func TestCheckNumber(t *testing.T) {
	for kind := api.JsonNull; kind <= api.JsonObject; kind++ {
		for _, n := range []int64{0, 1, -1, 2, 256, 1 << 32, api.MostNumber, -api.MostNumber, api.MostNumber + 1, -api.MostNumber - 1, math.MaxInt64, math.MinInt64} {
			want := api.ErrArg
			switch {
			case n == 0, kind == api.JsonBool && n == 1, kind == api.JsonNumber && n >= -api.MostNumber && n <= api.MostNumber:
				want = api.OK
			}
			checkIs(t, api.Json{Kind: kind, N: n}, want)
			checkIs(t, list(api.Json{Kind: kind, N: n}), want)
		}
	}
}

// P2.1: fields that a kind does not use, and as many Keys as Items.
func TestCheckFields(t *testing.T) {
	for kind := api.JsonNull; kind <= api.JsonObject; kind++ {
		want := api.ErrArg
		if kind == api.JsonText {
			want = api.OK
		}
		checkIs(t, api.Json{Kind: kind, Text: "a"}, want)
		for keys := range 4 {
			for items := range 4 {
				v := api.Json{Kind: kind, Keys: []string{"a", "b", "c"}[:keys], Items: slices.Repeat([]api.Json{null()}, items)}
				want := api.ErrArg
				switch {
				case keys == 0 && items == 0, kind == api.JsonList && keys == 0, kind == api.JsonObject && keys == items:
					want = api.OK
				}
				checkIs(t, v, want)
			}
		}
	}
}

func TestCheckText(t *testing.T) {
	for _, s := range []string{"\xff", "a\xc3", "\xed\xa0\x80", "\xc0\x80", "\xf4\x90\x80\x80"} {
		checkIs(t, text(s), api.ErrText)
		checkIs(t, list(null(), text(s)), api.ErrText)
		checkIs(t, object(s, null()), api.ErrText)
		checkIs(t, object("a "+s, null(), null()), api.ErrText)
		checkIs(t, object(s+" "+s, null(), null()), api.ErrText)
		checkIs(t, object("a a "+s, null(), null(), null()), api.ErrText)
	}
}

func TestCheckTwice(t *testing.T) {
	checkIs(t, object("a a", null(), null()), api.ErrTwice)
	checkIs(t, object("a b c b", null(), null(), null(), null()), api.ErrTwice)
	checkIs(t, object("a b c a", null(), null(), null(), null()), api.ErrTwice)
	checkIs(t, list(object("a"), object("a", null())), api.ErrArg)
	checkIs(t, list(object("a", object("a", null())), object("a", null())), api.OK)
	checkIs(t, object("a A aa", null(), null(), null()), api.OK)
	checkIs(t, api.Json{Kind: api.JsonObject, Keys: []string{"", ""}, Items: []api.Json{null(), null()}}, api.ErrTwice)
}

// P2.1: what is too deep, by lists and by objects, and with other errors beside it.
func TestCheckDepth(t *testing.T) {
	in := func(v api.Json, n int) api.Json {
		for i := range n {
			if i%2 == 0 {
				v = list(null(), v)
			} else {
				v = object("a b", v, null())
			}
		}
		return v
	}
	for n := range 12 {
		want := api.OK
		if n > 8 {
			want = api.ErrDepth
		}
		checkIs(t, in(null(), n), want)
		if n > 7 {
			want = api.ErrDepth
		}
		checkIs(t, in(list(), n), want)
		checkIs(t, in(object(""), n), want)
	}
	tooDeep := nestedLists(9)
	checkIs(t, list(api.Json{}, nestedLists(8)), api.ErrDepth)
	checkIs(t, api.Json{Kind: api.JsonList, N: 5, Items: []api.Json{nestedLists(8)}}, api.ErrDepth)
	checkIs(t, list(slices.Repeat([]api.Json{nestedLists(8)}, 500)...), api.ErrDepth)
	checkIs(t, list(append(slices.Repeat([]api.Json{null()}, 500), nestedLists(8))...), api.ErrDepth)
	checkIs(t, api.Json{Kind: api.JsonText, Items: []api.Json{tooDeep}}, api.ErrArg)
	checkIs(t, api.Json{Items: []api.Json{tooDeep}}, api.ErrKind)
}

// P2.1: what contains too many values, in one list, in several, and in kinds that have none.
func TestCheckCount(t *testing.T) {
	many := slices.Repeat([]api.Json{null()}, 500)
	for n := range 500 {
		want := api.OK
		if n+1 > 400 {
			want = api.ErrLong
		}
		checkIs(t, list(many[:n]...), want)
		if n+3 > 400 {
			want = api.ErrLong
		}
		checkIs(t, list(list(many[:n/2]...), list(many[:n-n/2]...)), want)
		for _, kind := range []int{0, api.JsonNull, api.JsonText, 7} {
			want := api.ErrArg
			switch {
			case n+1 > 400:
				want = api.ErrLong
			case kind == 0 || kind == 7:
				want = api.ErrKind
			case n == 0:
				want = api.OK
			}
			checkIs(t, api.Json{Kind: kind, Items: many[:n]}, want)
		}
	}
	keys := make([]string, 500)
	for i := range keys {
		keys[i] = fmt.Sprint(i)
	}
	checkIs(t, api.Json{Kind: api.JsonObject, Keys: keys[:399], Items: many[:399]}, api.OK)
	checkIs(t, api.Json{Kind: api.JsonObject, Keys: keys[:400], Items: many[:400]}, api.ErrLong)
	checkIs(t, api.Json{Kind: api.JsonObject, Keys: keys}, api.ErrArg)
	checkIs(t, api.Json{Kind: 9, N: 1, Items: many}, api.ErrLong)
}

// P2.1: value by value, each before its Items, and the first error of each.
func TestCheckOrder(t *testing.T) {
	bad := []struct {
		v api.Json
		e api.Errno
	}{
		{api.Json{Kind: 7}, api.ErrKind},
		{truth(2), api.ErrArg},
		{text("\xff"), api.ErrText},
		{object("a a", null(), null()), api.ErrTwice},
	}
	for _, x := range bad {
		for _, y := range bad {
			checkIs(t, list(x.v, y.v), x.e)
			checkIs(t, list(null(), list(list(x.v)), y.v), x.e)
			checkIs(t, list(list(null(), x.v), list(y.v)), x.e)
			checkIs(t, object("a b", list(object("c", x.v)), y.v), x.e)
			checkIs(t, list(x.v, list(list(y.v))), x.e)
		}
		checkIs(t, api.Json{Kind: 7, Items: []api.Json{x.v}}, api.ErrKind)
		checkIs(t, api.Json{Kind: api.JsonNull, Items: []api.Json{x.v}}, api.ErrArg)
		checkIs(t, object("a", x.v, null()), api.ErrArg)
		checkIs(t, object("\xff", x.v), api.ErrText)
		checkIs(t, object("a a", x.v, null()), api.ErrTwice)
	}
	checkIs(t, api.Json{Kind: api.JsonText, N: 1, Text: "\xff"}, api.ErrArg)
	checkIs(t, api.Json{Kind: api.JsonObject, N: 1, Keys: []string{"\xff"}, Items: []api.Json{null()}}, api.ErrArg)
	checkIs(t, api.Json{Kind: api.JsonNull, Text: "\xff"}, api.ErrArg)
	checkIs(t, object("\xff a a", null(), null(), null()), api.ErrText)
}

// T7: a list that contains itself has no end, but Check returns.
func TestCheckOfEndless(t *testing.T) {
	for _, x := range []struct {
		kind int
		want api.Errno
	}{
		{api.JsonList, api.ErrDepth},
		{api.JsonObject, api.ErrDepth},
		{api.JsonNull, api.ErrLong},
		{7, api.ErrLong},
	} {
		v := api.Json{Kind: x.kind, Items: make([]api.Json, 2)}
		v.Items[0], v.Items[1] = v, v
		if e := json.Check(v); e != x.want {
			t.Errorf("kind %d: %d, want %d", x.kind, e, x.want)
		}
	}
}
