package event_test

import (
	"fmt"

	"outlaw/api"
	"outlaw/event"
)

func ExampleBytes() {
	e := api.Event{ID: "$a", Room: "!r:s", Sender: "@u:s", Type: "t", TS: 1, Body: api.Json{Kind: api.JsonObject}}
	bytes, err := event.Bytes(e)
	fmt.Println(bytes, err == api.OK)
	e.Prev = []string{"$a"}
	fmt.Println(event.Check(e) == api.ErrTwice)
	// Output:
	// {"content":{},"event_id":"$a","origin_server_ts":1,"prev_events":[],"room_id":"!r:s","sender":"@u:s","type":"t"} true
	// true
}

func ExampleRead() {
	e, err := event.Read(`{"type":"t", "content":{}, "event_id":"$a", "origin_server_ts":1, "prev_events":["$b"], "room_id":"!r:s", "sender":"@u:s", "state_key":""}`)
	fmt.Println(e.ID, e.Room, e.Sender, e.State, e.Prev, err == api.OK)
	_, err = event.Read(`{"type":"t"}`)
	fmt.Println(err == api.ErrField)
	// Output:
	// $a !r:s @u:s true [$b] true
	// true
}
