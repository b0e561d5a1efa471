package nfa_test

import (
	"fmt"

	"outlaw/nfa"
)

func Example() {
	n, _ := nfa.New("*x", false)
	start := n.Start()
	fmt.Println(start, n.Step(start, 'x'))
	// Output: [0 1] [0 1 2]
}

func ExampleNfa_Run() {
	n, _ := nfa.New("@eve:*?*.com", true)
	fmt.Println(n.Pattern())
	fmt.Println(n.Run("@Eve:Evil.com"), n.Run("@Eve:.com"))
	// Output:
	// @eve:?*.com true
	// true false
}
