package dfa_test

import (
	"fmt"

	"outlaw/dfa"
)

func Example() {
	d, is := dfa.Build("*", false, 256)
	fmt.Println(d.Next, d.Accept, is)
	// Output: [[0]] [true] true
}

func ExampleBuild() {
	d, is := dfa.Build("ab", false, 256)
	fmt.Println(d.Class['a'], d.Class['b'], d.Class['A'], is)
	fmt.Println(d.Next)
	fmt.Println(d.Accept)
	// Output:
	// 1 2 0 true
	// [[1 2 1] [1 1 1] [1 1 3] [1 1 1]]
	// [false false false true]
}

func ExampleNew() {
	for _, p := range []string{"*a???????", "*a????????"} {
		a, _ := dfa.New(p, true, 256)
		fmt.Println(a.Full(), a.States(), a.Match("xxA12345678"), a.Match("xxxA1234567"))
	}
	// Output:
	// false 256 false true
	// true 0 true false
}
