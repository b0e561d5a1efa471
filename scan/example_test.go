package scan_test

import (
	"fmt"

	"outlaw/scan"
)

func ExampleUnquote() {
	text, size, e := scan.Unquote(`"caf\u00e9", 12`)
	fmt.Println(text, size, e)
	// Output: café 11 0
}
