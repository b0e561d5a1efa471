package index_test

import (
	"fmt"

	"outlaw/api"
	"outlaw/index"
)

func Example() {
	x := index.New(api.MostStates)
	fmt.Println(x.Put(3, "a*", false), x.Put(1, "ab", false), x.Put(2, "b", false))
	fmt.Println(x.Match("ab"))
	// Output:
	// 0 0 0
	// [1 3]
}

func ExampleIndex_Drop() {
	x := index.New(16)
	x.Put(7, "*.Evil.com", true)
	x.Put(4, "www.evil.com", false)
	fmt.Println(x.Match("www.evil.com"), x.Match("WWW.evil.com"))
	fmt.Println(x.Drop(7), x.Drop(7), x.Has(7), x.Len())
	fmt.Println(x.Match("www.evil.com"), x.Globs())
	// Output:
	// [4 7] [7]
	// 0 12 false 1
	// [4] [{4 www.evil.com false}]
}
