package ident_test

import (
	"fmt"

	"outlaw/api"
	"outlaw/ident"
)

func ExampleKind() {
	fmt.Println(ident.Kind("@a:B.org") == api.IdentUser)
	fmt.Println(ident.Kind("!r:x:80") == api.IdentRoom)
	fmt.Println(ident.Kind("$e") == api.IdentEvent)
	fmt.Println(ident.Kind("x.org") == api.IdentServer)
	fmt.Println(ident.Kind("@A:b") == api.IdentNone, ident.Kind("@a:") == api.IdentNone)
	// Output:
	// true
	// true
	// true
	// true
	// true true
}

func ExampleServerOf() {
	server, is := ident.ServerOf("@a:B.org")
	fmt.Println(server, is)
	_, is = ident.ServerOf("@A:b")
	fmt.Println(is)
	// Output:
	// b.org true
	// false
}
