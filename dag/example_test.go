package dag_test

import (
	"fmt"

	"outlaw/api"
	"outlaw/dag"
)

func Example() {
	made := func(id string, ts int64, prev ...string) api.Event {
		return api.Event{ID: id, Room: "!r:s", Sender: "@u:s", Type: "t", TS: ts, Prev: prev, Body: api.Json{Kind: api.JsonObject}}
	}
	l := []api.Event{made("$b", 1, "$a"), made("$a", 5), made("$c", 2, "$a"), made("$d", 0, "$x")}
	fmt.Println(dag.Order(l), dag.Held(l), dag.Missing(l))
	fmt.Println(dag.Heads(l), dag.Ahead(l, "$c"))
	l = append(l, made("$x", 9, "$c"))
	fmt.Println(dag.Order(l), dag.Held(l), dag.Missing(l))
	fmt.Println(dag.Heads(l), dag.Ahead(l, "$d"))
	// Output:
	// [$a $b $c] [$d] [$x]
	// [$b $c] [$a]
	// [$a $b $c $x $d] [] []
	// [$b $d] [$a $c $x]
}
