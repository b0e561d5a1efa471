package glob_test

import (
	"fmt"

	"outlaw/glob"
)

func ExampleMatch() {
	fmt.Println(glob.Match("@*:x.org", "@a:x.org", false))
	fmt.Println(glob.Match("a?c", "ac", false))
	fmt.Println(glob.Match("?*?", "ab", false))
	fmt.Println(glob.Match("*.Evil.com", "www.evil.COM", true))
	// Output:
	// true
	// false
	// true
	// true
}

func ExampleNorm() {
	fmt.Println(glob.Norm("@*?*:x.org"), glob.Least("@*?*:x.org"))
	// Output: @?*:x.org 8
}
