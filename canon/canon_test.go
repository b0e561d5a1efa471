package canon_test

import (
	"runtime/debug"
	"strconv"
	"testing"
	"unsafe"

	"outlaw/api"
	"outlaw/canon"
	"outlaw/json"
	"outlaw/jsontest"
)

// The values of the tests, by short names.
var (
	null   = jsontest.Null
	truth  = jsontest.Truth
	number = jsontest.Number
	text   = jsontest.Text
	list   = jsontest.List
	object = jsontest.Object
	show   = jsontest.Show
)

// with returns a value with these fields, whatever its kind allows.
func with(kind int, keys []string, items ...api.Json) api.Json {
	return api.Json{Kind: kind, Keys: keys, Items: items}
}

// P3.1: the order of the keys, with their values.
func TestCanon(t *testing.T) {
	one, two, three, four := number(1), number(2), number(3), number(4)
	for _, x := range []struct{ v, want api.Json }{
		{null(), null()},
		{text("b a"), text("b a")},
		{object(""), object("")},
		{object("a", one), object("a", one)},
		{object("a b", one, two), object("a b", one, two)},
		{object("b a", one, two), object("a b", two, one)},
		{object("c a b", one, two, three), object("a b c", two, three, one)},
		{object("b a b a", one, two, three, four), object("a a b b", two, four, one, three)},
		{object("a a", two, one), object("a a", two, one)},
		{object("b ab aa a B é z ~", one, one, one, one, one, one, one, one), object("B a aa ab b z ~ é", one, one, one, one, one, one, one, one)},
		{object("a10 a9 a1", one, two, three), object("a1 a10 a9", three, one, two)},
		{with(6, []string{"a", "", "\x00"}, one, two, three), with(6, []string{"", "\x00", "a"}, two, three, one)},
		{object("\U00010000 \uffff \ue000", one, two, three), object("\ue000 \uffff \U00010000", three, two, one)},
		{object("\xff \U0010ffff \x80 é", one, two, three, four), object("\x80 é \U0010ffff \xff", three, four, two, one)},
		{list(two, one), list(two, one)},
		{list(object("b a", one, two), object("d c", one, two)), list(object("a b", two, one), object("c d", two, one))},
		{object("b a", object("d c", one, two), list(object("f e", three, four))), object("a b", list(object("e f", four, three)), object("c d", two, one))},
	} {
		if got := canon.Canon(x.v); show(got) != show(x.want) {
			t.Errorf("%s: %s, want %s", show(x.v), show(got), show(x.want))
		}
	}
}

// P3.1: what is not an object with as many Items as Keys keeps its order, but
// the objects in it do not.
func TestCanonKeepsOrder(t *testing.T) {
	in, sorted := object("z y", null(), truth(1)), object("y z", truth(1), null())
	keys := []string{"b", "a", "c"}
	for kind := -1; kind <= 8; kind++ {
		for _, v := range []api.Json{
			{Kind: kind, N: 5, Text: "\xff", Keys: keys},
			with(kind, keys, in, null()),
			with(kind, keys[:2], in, null(), in),
			with(kind, nil, in, null(), in),
			with(kind, keys[:2], in, null()),
			{Kind: kind, N: 5, Text: "\xff", Keys: keys[:2], Items: []api.Json{in, null()}},
		} {
			want := json.Copy(v)
			for i := range want.Items {
				if len(want.Items[i].Keys) > 0 {
					want.Items[i] = sorted
				}
			}
			if kind == api.JsonObject && len(v.Items) == len(v.Keys) {
				want.Keys = []string{"a", "b"}
				want.Items[0], want.Items[1] = want.Items[1], want.Items[0]
			}
			if got := canon.Canon(v); show(got) != show(want) {
				t.Errorf("%s: %s, want %s", show(v), show(got), show(want))
			}
		}
	}
}

// P3.1: many equal keys keep their order.
func TestCanonIsStable(t *testing.T) {
	const n = 5000
	v := object("")
	for i := range int64(n) {
		v.Keys = append(v.Keys, strconv.Itoa(int(i*i%7)))
		v.Items = append(v.Items, number(i))
	}
	c := canon.Canon(v)
	if len(c.Keys) != n || len(c.Items) != n {
		t.Fatal(len(c.Keys), len(c.Items))
	}
	for i := range n {
		at := c.Items[i].N
		if c.Keys[i] != strconv.Itoa(int(at*at%7)) {
			t.Fatalf("%d has the key %s", at, c.Keys[i])
		}
		if i > 0 && (c.Keys[i-1] > c.Keys[i] || c.Keys[i-1] == c.Keys[i] && c.Items[i-1].N >= at) {
			t.Fatalf("%s %d before %s %d", c.Keys[i-1], c.Items[i-1].N, c.Keys[i], at)
		}
	}
}

// P3.1: the canonical form of the canonical form is itself.
func TestCanonTwice(t *testing.T) {
	for _, v := range samples() {
		c := canon.Canon(v)
		if show(c) != show(slowCanon(v)) {
			t.Errorf("%s: %s, want %s", show(v), show(c), show(slowCanon(v)))
		}
		if twice := canon.Canon(c); show(twice) != show(c) {
			t.Errorf("%s: %s, then %s", show(v), show(c), show(twice))
		}
	}
}

// P3.1 and P3.2: results are new memory, and what is passed stays as it is,
// with its spare capacity.
func TestResultsAreNew(t *testing.T) {
	for _, v := range samples() {
		v, x := jsontest.Roomy(v), jsontest.Roomy(object("b a", list(null()), text("x")))
		before, beforeX := jsontest.ShowAll(v), jsontest.ShowAll(x)
		c := canon.Canon(v)
		first, _ := canon.Get(v, "a")
		dropped := canon.Drop(v, "a")
		put, _ := canon.Put(v, "a", x)
		other, _ := canon.Put(x, "a", v)
		again, _ := canon.Put(x, "c", x)
		canon.Bytes(v)
		canon.Compare(v, x)
		if !jsontest.Apart(v, x, c, first, dropped, put, other, again) {
			t.Errorf("%s: shared memory", show(v))
		}
		if jsontest.ShowAll(v) != before || jsontest.ShowAll(x) != beforeX {
			t.Errorf("%s: changed to %s, %s to %s", before, jsontest.ShowAll(v), beforeX, jsontest.ShowAll(x))
		}
	}
}

func TestResultsKeepNoString(t *testing.T) {
	v := object("key", list(text("some text")))
	first, _ := canon.Get(v, "key")
	put, _ := canon.Put(object(""), v.Keys[0], v.Items[0])
	for _, c := range []api.Json{canon.Canon(v), object("", list(first)), put, canon.Drop(v, "x")} {
		if len(c.Keys) > 0 && unsafe.StringData(c.Keys[0]) == unsafe.StringData(v.Keys[0]) {
			t.Errorf("%s: the key", show(c))
		}
		in := c
		for len(in.Items) > 0 {
			in = in.Items[0]
		}
		if in.Text != "some text" || unsafe.StringData(in.Text) == unsafe.StringData(v.Items[0].Items[0].Text) {
			t.Errorf("%s: the text", show(c))
		}
	}
}

// T7: values may be deeper than calls can be.
func TestVeryDeep(t *testing.T) {
	defer debug.SetMaxStack(debug.SetMaxStack(4 << 20))
	const deep = 300000
	v, want := object("b a", number(1), number(2)), object("a b", number(2), number(1))
	for range deep {
		v, want = object("b a", v, null()), object("a b", null(), want)
	}
	if !json.Same(canon.Canon(v), want) {
		t.Error("canon")
	}
	if got, is := canon.Get(v, "b"); !is || !json.Same(got, v.Items[0]) {
		t.Error("get")
	}
	if got := canon.Drop(v, "a"); len(got.Keys) != 1 || !json.Same(got.Items[0], v.Items[0]) {
		t.Error("drop")
	}
	if s, e := canon.Bytes(v); s != "" || e != api.ErrDepth {
		t.Errorf("bytes: %q %d", s, e)
	}
	if canon.Compare(v, null()) != -1 || canon.Compare(null(), v) != 1 || canon.Compare(v, want) != 0 {
		t.Error("compare")
	}
	for _, x := range [][2]api.Json{{v, null()}, {object(""), v}} {
		if got, e := canon.Put(x[0], "a", x[1]); e != api.ErrDepth || !json.Same(got, api.Json{}) {
			t.Errorf("put: %d", e)
		}
	}
}

// T7: what contains itself has no end, but it is not valid.
func TestEndless(t *testing.T) {
	for _, x := range []struct {
		kind int
		want api.Errno
	}{
		{api.JsonList, api.ErrDepth},
		{api.JsonNull, api.ErrLong},
	} {
		v := api.Json{Kind: x.kind, Items: make([]api.Json, 2)}
		v.Items[0], v.Items[1] = v, v
		if s, e := canon.Bytes(v); s != "" || e != x.want {
			t.Errorf("bytes: %q %d", s, e)
		}
		if _, e := canon.Put(v, "a", null()); e != x.want {
			t.Errorf("put: %d", e)
		}
		if _, e := canon.Put(object(""), "a", v); e != x.want {
			t.Errorf("put of it: %d", e)
		}
		if canon.Compare(v, v) != 0 || canon.Compare(null(), v) != 1 {
			t.Error("compare")
		}
	}
}

func TestManyKeys(t *testing.T) {
	const n = 200000
	v := object("")
	for i := range n {
		v.Keys = append(v.Keys, strconv.Itoa(2000000-i))
		v.Items = append(v.Items, number(int64(i)))
	}
	c := canon.Canon(v)
	for i := range n {
		if c.Keys[i] != v.Keys[n-1-i] || c.Items[i].N != int64(n-1-i) {
			t.Fatal(i, c.Keys[i], c.Items[i].N)
		}
	}
	if got, is := canon.Get(v, v.Keys[n-1]); !is || got.N != n-1 {
		t.Error(got.N, is)
	}
	if got := canon.Drop(v, v.Keys[0]); len(got.Keys) != n-1 || len(got.Items) != n-1 || got.Keys[0] != v.Keys[1] {
		t.Error(len(got.Keys), len(got.Items))
	}
}
