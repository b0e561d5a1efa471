package canon

import (
	"slices"

	"outlaw/api"
	"outlaw/json"
	"outlaw/scan"
)

// Get returns a copy of the first value in v that has the key.
func Get(v api.Json, key string) (api.Json, bool) {
	if !isWhole(&v) {
		return api.Json{}, false
	}
	at := slices.Index(v.Keys, key)
	if at < 0 {
		return api.Json{}, false
	}
	return json.Copy(v.Items[at]), true
}

// Put returns v with x as the value of the key, in canonical form.
func Put(v api.Json, key string, x api.Json) (api.Json, api.Errno) {
	for _, y := range []api.Json{v, x} {
		if e := json.Check(y); e != api.OK {
			return api.Json{}, e
		}
	}
	switch {
	case v.Kind != api.JsonObject:
		return api.Json{}, api.ErrKind
	case !scan.Valid(key):
		return api.Json{}, api.ErrText
	}
	v = with(v, key, x)
	if e := json.Check(v); e != api.OK {
		return api.Json{}, e
	}
	return Canon(v), api.OK
}

// with leaves the slices of v as they are, but shares what is in them.
func with(v api.Json, key string, x api.Json) api.Json {
	v.Keys = slices.Clone(v.Keys)
	v.Items = slices.Clone(v.Items)
	if at := slices.Index(v.Keys, key); at >= 0 {
		v.Items[at] = x
		return v
	}
	v.Keys = append(v.Keys, key)
	v.Items = append(v.Items, x)
	return v
}

// Drop returns v without all that has the key.
func Drop(v api.Json, key string) api.Json {
	if isWhole(&v) {
		v = without(v, key)
	}
	return json.Copy(v)
}

// without leaves the slices of v as they are, but shares what is in them.
func without(v api.Json, key string) api.Json {
	var keys []string
	var items []api.Json
	for i, k := range v.Keys {
		if k != key {
			keys = append(keys, k)
			items = append(items, v.Items[i])
		}
	}
	v.Keys, v.Items = keys, items
	return v
}
