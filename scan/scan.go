// Package scan is layer 1: see shared/doc/01-scan.md.
package scan

import "strings"

// Space returns the number of blanks with which s begins.
func Space(s string) int {
	return len(s) - len(strings.TrimLeft(s, "\t\n\r "))
}

// Word returns the word with which s begins, or nothing.
func Word(s string) string {
	switch {
	case strings.HasPrefix(s, "true"):
		return "true"
	case strings.HasPrefix(s, "false"):
		return "false"
	case strings.HasPrefix(s, "null"):
		return "null"
	}
	return ""
}
