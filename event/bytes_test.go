package event_test

import (
	"fmt"
	"strings"
	"testing"

	"outlaw/api"
	"outlaw/canon"
	"outlaw/event"
)

func bytesAre(t *testing.T, e api.Event, want string) {
	t.Helper()
	if got, err := event.Bytes(e); got != want || err != api.OK {
		t.Errorf("%s: %s %d, want %s", show(e), got, err, want)
	}
	comesBack(t, e)
}

// comesBack checks P5.3 for a valid event: reading its bytes gives it, with
// its body in canonical form.
func comesBack(t *testing.T, e api.Event) {
	t.Helper()
	b, _ := event.Bytes(e)
	got, err := event.Read(b)
	e.Body = canon.Canon(e.Body)
	if err != api.OK || show(got) != show(e) {
		t.Errorf("%s: %s %d, want %s", b, show(got), err, show(e))
	}
	if again, err := event.Bytes(got); again != b || err != api.OK {
		t.Errorf("%s: then %s %d", b, again, err)
	}
	if !canon.Is(b) {
		t.Errorf("%s is not canonical", b)
	}
}

// The example of the chapter.
func TestExamples(t *testing.T) {
	bytesAre(t, plain(), `{"content":{},"event_id":"$a","origin_server_ts":1,"prev_events":[],"room_id":"!r:s","sender":"@u:s","type":"t"}`)
}

// P5.2: the bytes of events of each sort.
func TestBytes(t *testing.T) {
	for _, x := range []struct {
		e    api.Event
		want string
	}{
		{rich(), `{"content":{"a":["é"],"b":1},"event_id":"$b","origin_server_ts":7,"prev_events":["$a","$c"],"room_id":"!r:s","sender":"@u:s","state_key":"@v:s","type":"m.room.member"}`},
		{redaction(), `{"content":{},"event_id":"$a","origin_server_ts":1,"prev_events":[],"redacts":"$x","room_id":"!r:s","sender":"@u:s","type":"m.room.redaction"}`},
		{
			but(redaction(), isState, func(e *api.Event) { e.Redacts = "" }),
			`{"content":{},"event_id":"$a","origin_server_ts":1,"prev_events":[],"room_id":"!r:s","sender":"@u:s","state_key":"","type":"m.room.redaction"}`,
		},
		{
			api.Event{ID: "$~/", Room: "!A:B.org:80", Sender: "@a=b:C", Type: "\x00\"", State: true, Key: "é\n\\", TS: 9007199254740991, Prev: []string{"$z", "$a"}, Body: object("type", text("\x7f"))},
			"{\"content\":{\"type\":\"\x7f\"},\"event_id\":\"$~/\",\"origin_server_ts\":9007199254740991,\"prev_events\":[\"$z\",\"$a\"],\"room_id\":\"!A:B.org:80\",\"sender\":\"@a=b:C\",\"state_key\":\"é\\n\\\\\",\"type\":\"\\u0000\\\"\"}",
		},
	} {
		bytesAre(t, x.e, x.want)
	}
}

// P5.1 and P5.2: as many bytes as there may be, and one more.
func TestMostBytes(t *testing.T) {
	long := plain()
	long.State, long.Type, long.Key = true, strings.Repeat("t", 128), strings.Repeat("k", 255)
	for i := range 8 {
		long.Prev = append(long.Prev, fmt.Sprintf("$%064d", i))
	}
	for _, e := range []api.Event{plain(), rich(), redaction(), long} {
		e.Body = object("a", text(""))
		for _, letter := range []string{"a", "\n", "\x01", "\x7f"} {
			one := len(slowLiteral(letter)) - 2
			left := 4096 - len(slowText(e))
			body := strings.Repeat(letter, left/one) + strings.Repeat("b", left%one)
			full, over := e, e
			full.Body, over.Body = object("a", text(body)), object("a", text(body+"b"))
			if b, err := event.Bytes(full); len(b) != 4096 || err != api.OK {
				t.Errorf("%d bytes: %d", len(b), err)
			}
			comesBack(t, full)
			checkIs(t, over, api.ErrLong)
		}
	}
	tooMuch := but(plain(), func(e *api.Event) { e.Body = object("a", text(strings.Repeat("\x00", 1<<20))) })
	checkIs(t, tooMuch, api.ErrLong)
}
