package canon_test

import (
	"fmt"
	"slices"
	"strings"

	"outlaw/api"
	"outlaw/jsontest"
)

// slowCanon takes the least of the keys that are left, the first one of equal
// ones, until none is left.
func slowCanon(v api.Json) api.Json {
	keys, items := slices.Clone(v.Keys), slices.Clone(v.Items)
	for i := range items {
		items[i] = slowCanon(items[i])
	}
	if v.Kind != api.JsonObject || len(keys) != len(items) {
		v.Items = items
		return v
	}
	v.Keys, v.Items = nil, nil
	for len(keys) > 0 {
		least := 0
		for i := range keys {
			if keys[i] < keys[least] {
				least = i
			}
		}
		v.Keys = append(v.Keys, keys[least])
		v.Items = append(v.Items, items[least])
		keys = slices.Delete(keys, least, least+1)
		items = slices.Delete(items, least, least+1)
	}
	return v
}

// slowText writes a value as it stands.
func slowText(v api.Json) string {
	var parts []string
	for i, x := range v.Items {
		if v.Kind == api.JsonObject {
			parts = append(parts, slowLiteral(v.Keys[i])+":"+slowText(x))
		} else {
			parts = append(parts, slowText(x))
		}
	}
	inside := strings.Join(parts, ",")
	return map[int]string{
		api.JsonNull:   "null",
		api.JsonBool:   fmt.Sprint(v.N == 1),
		api.JsonNumber: fmt.Sprint(v.N),
		api.JsonText:   slowLiteral(v.Text),
		api.JsonList:   "[" + inside + "]",
		api.JsonObject: "{" + inside + "}",
	}[v.Kind]
}

func slowLiteral(s string) string {
	short := map[rune]string{8: `\b`, 9: `\t`, 10: `\n`, 12: `\f`, 13: `\r`, '"': `\"`, '\\': `\\`}
	out := `"`
	for _, r := range s {
		switch {
		case short[r] != "":
			out += short[r]
		case r < 32:
			out += fmt.Sprintf(`\u%04x`, r)
		default:
			out += string(r)
		}
	}
	return out + `"`
}

// samples are values of many shapes, many of them not valid, and some the same
// but for the order of keys.
func samples() []api.Json {
	all := jsontest.Different()
	some := []api.Json{null(), number(10), number(9), text("a\n\"é"), list(object("b a", null(), list())), object("b a", number(1), text("")), {Kind: 7}}
	for _, keys := range [][]string{{"a", "b"}, {"b", "a"}, {"a", "a"}, {"", "\n"}, {"\n", ""}, {"\xff", "a"}, {"a", "aa"}} {
		for _, x := range some {
			for _, y := range some {
				all = append(all, with(api.JsonObject, keys, x, y), with(api.JsonObject, append(keys, "A"), x, y), with(api.JsonObject, append(keys, "A"), x, y, x))
			}
		}
	}
	for _, x := range some {
		for _, y := range some {
			all = append(all, list(x, y), list(list(x), y), list(object("z y x", x, y, x)), with(api.JsonText, nil, x, y), with(api.JsonList, []string{"b", "a"}, x, y))
		}
	}
	return append(all, jsontest.NestedLists(8), jsontest.NestedLists(9), list(make([]api.Json, 500)...), list(slices.Repeat(some[:1], 399)...), list(slices.Repeat(some[:1], 400)...))
}
