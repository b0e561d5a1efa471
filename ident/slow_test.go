package ident_test

import (
	"regexp"
	"strings"

	"outlaw/api"
)

// The terms of the chapter, written once more as patterns.
var (
	slowServer = regexp.MustCompile(`^[a-zA-Z0-9.\-]+(:[0-9]{1,5})?$`)
	slowUser   = regexp.MustCompile(`^@[a-z0-9._=\-/+]+:(.*)$`)
	slowRoom   = regexp.MustCompile(`^![a-zA-Z0-9._\-]+:(.*)$`)
	slowEvent  = regexp.MustCompile(`^\$[a-zA-Z0-9_\-.~/]{1,64}$`)
)

func isSlowServer(s string) bool {
	return len(s) <= 128 && slowServer.MatchString(s)
}

// isSlowOn reports whether what follows the first colon of s, which is of the
// form, is a server name.
func isSlowOn(s string, form *regexp.Regexp) bool {
	return len(s) <= 255 && form.MatchString(s) && isSlowServer(s[strings.Index(s, ":")+1:])
}

// slowKind returns the one kind of s, and how many kinds it is of.
func slowKind(s string) (int, int) {
	kind, count := api.IdentNone, 0
	for k, is := range map[int]bool{
		api.IdentUser:   isSlowOn(s, slowUser),
		api.IdentRoom:   isSlowOn(s, slowRoom),
		api.IdentEvent:  slowEvent.MatchString(s),
		api.IdentServer: isSlowServer(s),
	} {
		if is {
			kind = k
			count++
		}
	}
	return kind, count
}

// slowLower replaces letter by letter.
func slowLower(s string) string {
	const capitals = "ABCDEFGHIJKLMNOPQRSTUVWXYZ"
	for i := range capitals {
		s = strings.ReplaceAll(s, capitals[i:i+1], "abcdefghijklmnopqrstuvwxyz"[i:i+1])
	}
	return s
}
