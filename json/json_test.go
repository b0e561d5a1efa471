package json_test

import (
	"runtime/debug"
	"testing"
	"unsafe"

	"outlaw/api"
	"outlaw/json"
	"outlaw/jsontest"
)

// The values of the tests, by short names.
var (
	null        = jsontest.Null
	truth       = jsontest.Truth
	number      = jsontest.Number
	text        = jsontest.Text
	list        = jsontest.List
	object      = jsontest.Object
	nestedLists = jsontest.NestedLists
	show        = jsontest.Show
	roomy       = jsontest.Roomy
	showAll     = jsontest.ShowAll
)

// P2.1: the depth is 0 for what is no list and no object, whatever its Items are.
func TestDepth(t *testing.T) {
	for _, x := range []struct {
		v    api.Json
		want int
	}{
		{api.Json{}, 0},
		{null(), 0},
		{truth(1), 0},
		{number(7), 0},
		{text("[[]]"), 0},
		{list(), 1},
		{object(""), 1},
		{list(null()), 1},
		{list(null(), list(), null()), 2},
		{list(list(list()), list()), 3},
		{list(list(), list(list())), 3},
		{object("a b", object("c", list()), list()), 3},
		{object("a", list(), list(list())), 3},
		{api.Json{Kind: api.JsonText, Items: []api.Json{list(list())}}, 0},
		{list(api.Json{Kind: api.JsonNull, Items: []api.Json{list(list())}}), 1},
		{api.Json{Kind: 7, Items: []api.Json{list()}}, 0},
		{api.Json{Kind: 0, Items: []api.Json{list()}}, 0},
		{api.Json{Kind: -1, Items: []api.Json{list()}}, 0},
		{api.Json{Kind: api.JsonObject, Keys: []string{"a", "b"}}, 1},
		{nestedLists(8), 8},
		{nestedLists(9), 9},
		{nestedLists(1000), 1000},
	} {
		if got := json.Depth(x.v); got != x.want {
			t.Errorf("%.80s: %d, want %d", show(x.v), got, x.want)
		}
	}
}

// P2.1: everything in Items counts, for any Kind.
func TestCount(t *testing.T) {
	for _, x := range []struct {
		v    api.Json
		want int
	}{
		{api.Json{}, 1},
		{null(), 1},
		{text("abc"), 1},
		{list(), 1},
		{object("a b c"), 1},
		{list(null(), null()), 3},
		{object("a b", list(null()), text("x")), 4},
		{list(list(list()), list()), 4},
		{api.Json{Kind: api.JsonText, Items: []api.Json{list(null())}}, 3},
		{api.Json{Kind: 99, Items: []api.Json{{Kind: -5, Items: []api.Json{{}, {}}}}}, 4},
		{nestedLists(1000), 1000},
		{list(make([]api.Json, 1000)...), 1001},
	} {
		if got := json.Count(x.v); got != x.want {
			t.Errorf("%.80s: %d, want %d", show(x.v), got, x.want)
		}
	}
}

// P2.1: Same compares all fields of any values; a nil slice is an empty one.
func TestSame(t *testing.T) {
	for i, a := range jsontest.Different() {
		for j, b := range jsontest.Different() {
			if json.Same(a, b) != (i == j) {
				t.Errorf("%s and %s: %v", show(a), show(b), i != j)
			}
		}
	}
	empty := api.Json{Kind: api.JsonObject, Keys: make([]string, 0, 3), Items: make([]api.Json, 0, 3)}
	if !json.Same(empty, object("")) || !json.Same(list(object("")), list(empty)) {
		t.Error("nil and empty")
	}
}

// P2.1: a copy is the same and shares no memory, neither with its original nor among its slices.
func TestCopy(t *testing.T) {
	all := append(jsontest.Different(), list(jsontest.Different()...), object("a b c", jsontest.Different()...))
	twin := object("k l", list(null()), text("x"))
	all = append(all, list(twin, twin, list(twin)), nestedLists(20))
	for _, v := range all {
		v = roomy(v)
		before := showAll(v)
		c := json.Copy(v)
		if show(c) != show(v) || !json.Same(c, v) {
			t.Errorf("%s: the copy is %s", show(v), show(c))
		}
		if !jsontest.Apart(v, c) {
			t.Errorf("%s: shared memory", show(v))
		}
		if showAll(v) != before {
			t.Errorf("%s: changed to %s", before, showAll(v))
		}
	}
}

func TestCopyKeepsNoString(t *testing.T) {
	v := object("key other", text("some text"), list(text("more")))
	c := json.Copy(v)
	for _, x := range [][2]string{
		{v.Keys[0], c.Keys[0]},
		{v.Keys[1], c.Keys[1]},
		{v.Items[0].Text, c.Items[0].Text},
		{v.Items[1].Items[0].Text, c.Items[1].Items[0].Text},
	} {
		if x[0] != x[1] || unsafe.StringData(x[0]) == unsafe.StringData(x[1]) {
			t.Errorf("%q and %q", x[0], x[1])
		}
	}
}

func TestChangedCopyLeavesOriginal(t *testing.T) {
	v := roomy(object("a b", list(number(1), object("c", text("x"))), null()))
	before := showAll(v)
	c := json.Copy(v)
	c.Keys[0] = "z"
	c.Items[0].Items[1].Keys[0] = "z"
	c.Items[0].Items[1].Items[0].Text = "z"
	c.Items[0].Items[0].N = 9
	c.Items[1] = list()
	_ = append(c.Keys, "z")
	_ = append(c.Items, text("z"))
	_ = append(c.Items[0].Items, text("z"))
	if showAll(v) != before {
		t.Errorf("%s, was %s", showAll(v), before)
	}
}

// P2.1 and T7: values may be deeper than calls can be.
func TestVeryDeep(t *testing.T) {
	defer debug.SetMaxStack(debug.SetMaxStack(4 << 20))
	const deep = 300000
	v, w := nestedLists(deep), nestedLists(deep-1)
	if got := json.Depth(v); got != deep {
		t.Errorf("depth %d", got)
	}
	if got := json.Count(v); got != deep {
		t.Errorf("count %d", got)
	}
	c := json.Copy(v)
	if !json.Same(v, c) || json.Same(v, w) || json.Same(w, v) {
		t.Error("same")
	}
	if e := json.Check(v); e != api.ErrDepth {
		t.Errorf("check: %d", e)
	}
	inText := api.Json{Kind: api.JsonText, Items: []api.Json{v}}
	if json.Depth(inText) != 0 || json.Count(inText) != deep+1 || json.Check(inText) != api.ErrLong {
		t.Error("in a text")
	}
}

// P2.1: none of the functions changes what it is given.
func TestArgumentsStay(t *testing.T) {
	for _, v := range append(jsontest.Different(), list(jsontest.Different()...), nestedLists(12), list(make([]api.Json, 500)...)) {
		v, w := roomy(v), roomy(v)
		before := showAll(v)
		json.Check(v)
		json.Depth(v)
		json.Count(v)
		json.Same(v, w)
		json.Same(w, v)
		if showAll(v) != before || showAll(w) != before {
			t.Errorf("%.200s: changed", before)
		}
	}
}
