package json_test

import (
	"fmt"

	"outlaw/api"
	"outlaw/json"
)

func ExampleParse() {
	v, e := json.Parse(` {"a":[1,true]} `)
	fmt.Println(e == api.OK, v.Kind == api.JsonObject, v.Keys)
	fmt.Println(v.Items[0].Kind == api.JsonList, v.Items[0].Items[0].N, json.Depth(v), json.Count(v))
	_, e = json.Parse(`{"a":1,"a":2}`)
	fmt.Println(e == api.ErrTwice)
	// Output:
	// true true [a]
	// true 1 2 4
	// true
}

func ExampleRead() {
	v, size, e := json.Read(`"caf\u00e9", 12`, 0)
	fmt.Println(v.Text, size, e == api.OK)
	_, _, e = json.Read(`[[]]`, 1)
	fmt.Println(e == api.ErrDepth)
	// Output:
	// café 11 true
	// true
}
