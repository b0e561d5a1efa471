package canon_test

import (
	"fmt"

	"outlaw/api"
	"outlaw/canon"
	"outlaw/json"
)

func ExampleBytes() {
	v, _ := json.Parse(`{ "b" : 1 , "a" : [ ] }`)
	s, e := canon.Bytes(v)
	fmt.Println(s, e == api.OK, canon.Is(s))
	// Output: {"a":[],"b":1} true true
}

func ExamplePut() {
	v, _ := json.Parse(`{"b":1}`)
	v, _ = canon.Put(v, "a", api.Json{Kind: api.JsonList})
	s, _ := canon.Bytes(v)
	fmt.Println(s)
	s, _ = canon.Bytes(canon.Drop(v, "b"))
	fmt.Println(s)
	x, is := canon.Get(v, "b")
	fmt.Println(x.N, is)
	// Output:
	// {"a":[],"b":1}
	// {"a":[]}
	// 1 true
}
