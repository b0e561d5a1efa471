// Package jsontest makes and shows JSON values for tests of the layers.
package jsontest

import (
	"slices"
	"strconv"
	"strings"

	"outlaw/api"
)

// Null returns null.
func Null() api.Json { return api.Json{Kind: api.JsonNull} }

// Truth returns true for 1 and false for 0.
func Truth(n int64) api.Json { return api.Json{Kind: api.JsonBool, N: n} }

// Number returns a number.
func Number(n int64) api.Json { return api.Json{Kind: api.JsonNumber, N: n} }

// Text returns a text.
func Text(s string) api.Json { return api.Json{Kind: api.JsonText, Text: s} }

// List returns a list.
func List(v ...api.Json) api.Json { return api.Json{Kind: api.JsonList, Items: v} }

// Object returns an object; its keys are one text, in which blanks separate them.
func Object(keys string, v ...api.Json) api.Json {
	return api.Json{Kind: api.JsonObject, Keys: strings.Fields(keys), Items: v}
}

// NestedLists returns n lists, each but the last with the next one in it.
func NestedLists(n int) api.Json {
	v := List()
	for range n - 1 {
		v = List(v)
	}
	return v
}

// Different returns values of which no two are equal, many of them not valid.
func Different() []api.Json {
	return []api.Json{
		{}, {Kind: -1}, {Kind: 7}, {N: 1}, {Text: "a"}, {Keys: []string{""}}, {Items: []api.Json{{}}},
		Null(), Truth(0), Truth(1), Truth(2), Number(0), Number(1), Number(-1), Text(""), Text("a"), Text("b"), Text("\xff"),
		List(), List(Null()), List(Null(), Null()), List(List()), List(List(), Null()), List(Null(), List()), List(Text("a")), List(Text("b")),
		List(List(Text("a")), Null()), List(List(Text("b")), Null()), List(List(Text("a")), List()),
		Object(""), Object("a"), Object("b"), Object("", Null()), Object("a", Null()), Object("b", Null()), Object("a", Truth(0)),
		Object("a b", Number(1), Number(2)), Object("b a", Number(2), Number(1)), Object("a b", Number(2), Number(1)), Object("b a", Number(1), Number(2)),
		Object("a a", Number(1), Number(2)), Object("a a", Number(2), Number(1)), Object("a b", Number(1)), Object("ab", Number(1), Number(2)),
		Object("a", Object("a", Null())), Object("a", Object("b", Null())),
		{Kind: api.JsonText, N: 1, Text: "a"}, {Kind: api.JsonText, Text: "a", Keys: []string{"a"}},
		{Kind: api.JsonText, Text: "a", Items: []api.Json{{}}}, {Kind: api.JsonText, Text: "a", Items: []api.Json{{N: 1}}},
	}
}

// Show writes all fields of any value, so that equal texts mean equal values.
func Show(v api.Json) string {
	var b strings.Builder
	show(&b, v)
	return b.String()
}

func show(b *strings.Builder, v api.Json) {
	b.WriteString(strconv.Itoa(v.Kind))
	b.WriteByte(' ')
	b.WriteString(strconv.FormatInt(v.N, 10))
	for _, s := range append([]string{v.Text}, v.Keys...) {
		b.WriteByte(' ')
		b.WriteString(strconv.Quote(s))
	}
	b.WriteString(" (")
	for _, x := range v.Items {
		show(b, x)
	}
	b.WriteByte(')')
}

// Roomy returns a copy of v in which every slice has spare capacity, filled.
func Roomy(v api.Json) api.Json {
	v.Keys = append(append(make([]string, 0, len(v.Keys)+2), v.Keys...), "spare", "more")[:len(v.Keys)]
	old := v.Items
	v.Items = make([]api.Json, 0, len(old)+2)
	for _, x := range old {
		v.Items = append(v.Items, Roomy(x))
	}
	v.Items = append(v.Items, Text("spare"), Text("more"))[:len(old)]
	return v
}

// ShowAll is Show of v with the spare capacity of its slices.
func ShowAll(v api.Json) string { return Show(opened(v)) }

func opened(v api.Json) api.Json {
	v.Keys = v.Keys[:cap(v.Keys)]
	v.Items = slices.Clone(v.Items[:cap(v.Items)])
	for i, x := range v.Items {
		v.Items[i] = opened(x)
	}
	return v
}

// Apart reports whether no two slices in all the values share memory, also not
// in their spare capacity.
func Apart(values ...api.Json) bool {
	k := known{map[*string]bool{}, map[*api.Json]bool{}}
	for _, v := range values {
		if !k.add(v) {
			return false
		}
	}
	return true
}

// known tells where the elements of slices are.
type known struct {
	keys  map[*string]bool
	items map[*api.Json]bool
}

// add reports whether all in v was unknown.
func (k known) add(v api.Json) bool {
	keys, items := v.Keys[:cap(v.Keys)], v.Items[:cap(v.Items)]
	for i := range keys {
		if k.keys[&keys[i]] {
			return false
		}
		k.keys[&keys[i]] = true
	}
	for i := range items {
		if k.items[&items[i]] {
			return false
		}
		k.items[&items[i]] = true
	}
	for _, x := range v.Items {
		if !k.add(x) {
			return false
		}
	}
	return true
}
