package canon_test

import (
	"slices"
	"testing"

	"outlaw/api"
	"outlaw/canon"
	"outlaw/json"
	"outlaw/jsontest"
	"outlaw/scan"
)

func getIs(t *testing.T, v api.Json, key string, want api.Json, is bool) {
	t.Helper()
	if got, gotIs := canon.Get(v, key); show(got) != show(want) || gotIs != is {
		t.Errorf("%.200s, %q: %.200s %v, want %.200s %v", show(v), key, show(got), gotIs, show(want), is)
	}
}

// P3.2: the first value with a key, as it stands; of any whole object.
func TestGet(t *testing.T) {
	v := object("b a c", number(1), object("z y", null(), truth(1)), list())
	getIs(t, v, "b", number(1), true)
	getIs(t, v, "a", object("z y", null(), truth(1)), true)
	getIs(t, v, "c", list(), true)
	getIs(t, with(api.JsonObject, []string{"", "a"}, null(), truth(0)), "", null(), true)
	for _, key := range []string{"", "d", "A", "ab", "z", "b a", "\xff"} {
		getIs(t, v, key, api.Json{}, false)
	}
	getIs(t, object(""), "a", api.Json{}, false)
	getIs(t, object("a b a", number(1), number(2), number(3)), "a", number(1), true)
	getIs(t, object("b a a", number(1), number(2), number(3)), "a", number(2), true)
	invalid := with(9, []string{"q"}, api.Json{Kind: -1, N: 7, Text: "\xff"})
	getIs(t, object("a \xff", null(), invalid), "\xff", invalid, true)
	getIs(t, api.Json{Kind: api.JsonObject, N: 5, Text: "x", Keys: []string{"a"}, Items: []api.Json{{}}}, "a", api.Json{}, true)
	deep := jsontest.NestedLists(20)
	getIs(t, object("a", deep), "a", deep, true)
}

// P3.2: of all others there is nothing.
func TestGetNothing(t *testing.T) {
	getIs(t, object("a b", null()), "a", api.Json{}, false)
	getIs(t, object("a", null(), null()), "a", api.Json{}, false)
	getIs(t, object("a"), "a", api.Json{}, false)
	getIs(t, object("", null()), "", api.Json{}, false)
	for kind := -1; kind <= 8; kind++ {
		if kind != api.JsonObject {
			getIs(t, with(kind, []string{"a", "b"}, null(), null()), "a", api.Json{}, false)
		}
	}
}

func putIs(t *testing.T, v api.Json, key string, x, want api.Json, e api.Errno) {
	t.Helper()
	if got, gotE := canon.Put(v, key, x); show(got) != show(want) || gotE != e {
		t.Errorf("%.200s, %q, %.200s: %.200s %d, want %.200s %d", show(v), key, show(x), show(got), gotE, show(want), e)
	}
}

// P3.2: a value is put in, or in the place of the previous one.
func TestPut(t *testing.T) {
	one, two, three := number(1), number(2), number(3)
	for _, x := range []struct {
		v    api.Json
		key  string
		x    api.Json
		want api.Json
	}{
		{object(""), "a", one, object("a", one)},
		{object(""), "", one, with(api.JsonObject, []string{""}, one)},
		{object("a", one), "b", two, object("a b", one, two)},
		{object("b", one), "a", two, object("a b", two, one)},
		{object("a c", one, two), "b", three, object("a b c", one, three, two)},
		{object("a", one), "a", two, object("a", two)},
		{object("a b c", one, two, three), "b", null(), object("a b c", one, null(), three)},
		{object("c b a", one, two, three), "b", null(), object("a b c", three, null(), one)},
		{object("c b a", one, two, three), "c", null(), object("a b c", three, two, null())},
		{object("c b", object("z y", one, two), one), "a", object("x w", one, list(object("v u", two, three))),
			object("a b c", object("w x", list(object("u v", three, two)), one), one, object("y z", two, one))},
		{object("b", one), "a\u00e9\x00", two, object("a\u00e9\x00 b", two, one)},
		{object("a", jsontest.NestedLists(7)), "a", null(), object("a", null())},
	} {
		putIs(t, x.v, x.key, x.x, x.want, api.OK)
	}
}

// P3.2: the errors, in their order.
func TestPutErrors(t *testing.T) {
	many := list(slices.Repeat([]api.Json{null()}, 400)...)
	bad := []struct {
		v api.Json
		e api.Errno
	}{
		{jsontest.NestedLists(9), api.ErrDepth},
		{many, api.ErrLong},
		{api.Json{}, api.ErrKind},
		{object("a", truth(2)), api.ErrArg},
		{object("a", text("\xff")), api.ErrText},
		{object("a a", null(), null()), api.ErrTwice},
	}
	for _, x := range bad {
		for _, y := range bad {
			putIs(t, x.v, "\xff", y.v, api.Json{}, x.e)
		}
		for _, v := range []api.Json{object(""), null(), object("a", jsontest.NestedLists(7))} {
			putIs(t, v, "a", x.v, api.Json{}, x.e)
			putIs(t, v, "\xff", x.v, api.Json{}, x.e)
		}
	}
	for _, v := range []api.Json{null(), truth(1), number(1), text("a"), list(), list(object(""))} {
		putIs(t, v, "a", null(), api.Json{}, api.ErrKind)
		putIs(t, v, "\xff", null(), api.Json{}, api.ErrKind)
		putIs(t, v, "a", jsontest.NestedLists(8), api.Json{}, api.ErrKind)
	}
	for _, key := range []string{"\xff", "a\xc3", "\xed\xa0\x80"} {
		putIs(t, object(""), key, null(), api.Json{}, api.ErrText)
		putIs(t, object("a", null()), key, jsontest.NestedLists(8), api.Json{}, api.ErrText)
	}
}

// P3.2: the result may be too deep, or contain too many values.
func TestPutTooMuch(t *testing.T) {
	full := object("a", list(slices.Repeat([]api.Json{null()}, 398)...))
	almost := object("a", list(slices.Repeat([]api.Json{null()}, 397)...))
	putIs(t, object(""), "a", jsontest.NestedLists(7), object("a", jsontest.NestedLists(7)), api.OK)
	putIs(t, object(""), "a", jsontest.NestedLists(8), api.Json{}, api.ErrDepth)
	putIs(t, object("a", null()), "a", jsontest.NestedLists(8), api.Json{}, api.ErrDepth)
	putIs(t, full, "b", jsontest.NestedLists(8), api.Json{}, api.ErrDepth)
	putIs(t, full, "b", null(), api.Json{}, api.ErrLong)
	putIs(t, full, "b", list(null()), api.Json{}, api.ErrLong)
	putIs(t, full, "a", full, api.Json{}, api.ErrLong)
	putIs(t, full, "a", full.Items[0], full, api.OK)
	putIs(t, full, "a", null(), object("a", null()), api.OK)
	putIs(t, almost, "b", null(), object("a b", almost.Items[0], null()), api.OK)
	putIs(t, almost, "b", list(null()), api.Json{}, api.ErrLong)
}

// slowPut keeps all but what has the key, and checks what the chapter names.
func slowPut(v api.Json, key string, x api.Json) (api.Json, api.Errno) {
	if e := json.Check(v); e != api.OK {
		return api.Json{}, e
	}
	if e := json.Check(x); e != api.OK {
		return api.Json{}, e
	}
	if v.Kind != api.JsonObject {
		return api.Json{}, api.ErrKind
	}
	if !scan.Valid(key) {
		return api.Json{}, api.ErrText
	}
	all := object(key, x)
	all.Keys = []string{key}
	for i, k := range v.Keys {
		if k != key {
			all.Keys = append(all.Keys, k)
			all.Items = append(all.Items, v.Items[i])
		}
	}
	if e := json.Check(all); e != api.OK {
		return api.Json{}, e
	}
	return slowCanon(all), api.OK
}

// P3.2: what was put in is found, and all else stays.
func TestPutOfMany(t *testing.T) {
	all := samples()
	for i, v := range all {
		for _, key := range []string{"", "a", "b", "A", "\n", "z", "\xff"} {
			x := all[i*31%len(all)]
			want, e := slowPut(v, key, x)
			putIs(t, v, key, x, want, e)
			if e == api.OK {
				getIs(t, want, key, slowCanon(x), true)
			}
		}
	}
}

func dropIs(t *testing.T, v api.Json, key string, want api.Json) {
	t.Helper()
	if got := canon.Drop(v, key); show(got) != show(want) {
		t.Errorf("%.200s, %q: %.200s, want %.200s", show(v), key, show(got), show(want))
	}
}

// P3.2: everything that has the key goes; the rest stays as it is.
func TestDrop(t *testing.T) {
	one, two, three := number(1), number(2), number(3)
	dropIs(t, object("b a c", one, two, three), "a", object("b c", one, three))
	dropIs(t, object("b a c", one, two, three), "b", object("a c", two, three))
	dropIs(t, object("b a c", one, two, three), "c", object("b a", one, two))
	dropIs(t, object("b a c", one, two, three), "", object("b a c", one, two, three))
	dropIs(t, object("c a b a", one, two, three, null()), "a", object("c b", one, three))
	dropIs(t, object("a a", one, two), "a", object(""))
	dropIs(t, object("a", one), "a", object(""))
	dropIs(t, object(""), "a", object(""))
	dropIs(t, object("a ab A", one, two, three), "a", object("ab A", two, three))
	dropIs(t, with(api.JsonObject, []string{"", "a", ""}, one, two, three), "", object("a", two))
	dropIs(t, object("\xff b", one, two), "\xff", object("b", two))
	in := object("z a", one, two)
	dropIs(t, object("b a", list(in), in), "a", object("b", list(in)))
	dropIs(t, api.Json{Kind: api.JsonObject, N: 5, Text: "\xff", Keys: []string{"a", "b"}, Items: []api.Json{{Kind: 7}, {Kind: -7}}}, "a",
		api.Json{Kind: api.JsonObject, N: 5, Text: "\xff", Keys: []string{"b"}, Items: []api.Json{{Kind: -7}}})
}

// P3.2: what is not an object, or has not as many Items as Keys, stays.
func TestDropNothing(t *testing.T) {
	for _, v := range []api.Json{
		object("a b", null()),
		object("a", null(), null()),
		object("a"),
		object("", null()),
		null(),
		text("a"),
		list(object("a", null())),
		jsontest.NestedLists(20),
	} {
		dropIs(t, v, "a", v)
		dropIs(t, v, "", v)
	}
	for kind := -1; kind <= 8; kind++ {
		if kind != api.JsonObject {
			v := api.Json{Kind: kind, N: 3, Text: "x", Keys: []string{"b", "a"}, Items: []api.Json{null(), truth(1)}}
			dropIs(t, v, "a", v)
		}
	}
}

// P3.2: after a drop there is nothing with the key, and putting a value in and
// dropping it leads back to the canonical form.
func TestDropOfMany(t *testing.T) {
	for _, v := range samples() {
		for _, key := range []string{"", "a", "b", "A", "\n", "z", "\xff"} {
			getIs(t, canon.Drop(v, key), key, api.Json{}, false)
			put, e := canon.Put(v, key, null())
			if e == api.OK {
				dropIs(t, put, key, slowCanon(canon.Drop(v, key)))
			}
		}
	}
}
