package event_test

import (
	"fmt"
	"regexp"
	"sort"
	"strings"
	"unicode/utf8"

	"outlaw/api"
	"outlaw/canon"
	"outlaw/json"
)

// The terms of identifiers that the tests use, written once more as patterns.
var (
	slowID   = regexp.MustCompile(`^\$[a-zA-Z0-9_\-.~/]{1,64}$`)
	slowRoom = regexp.MustCompile(`^![a-zA-Z0-9._\-]+:[a-zA-Z0-9.\-]{1,128}$`)
	slowUser = regexp.MustCompile(`^@[a-z0-9._=\-/+]+:[a-zA-Z0-9.\-]{1,128}$`)
)

func isSlowRedaction(e api.Event) bool {
	return e.Type == "m.room.redaction" && !e.State
}

// slowCheck makes the list of everything that is wrong, in the order of the
// chapter, and takes the first.
func slowCheck(e api.Event) api.Errno {
	var wrong []api.Errno
	note := func(is bool, err api.Errno) {
		if is {
			wrong = append(wrong, err)
		}
	}
	note(!slowID.MatchString(e.ID), api.ErrID)
	note(!slowRoom.MatchString(e.Room) || len(e.Room) > 255, api.ErrID)
	note(!slowUser.MatchString(e.Sender) || len(e.Sender) > 255, api.ErrID)
	note(len(e.Type) < 1 || len(e.Type) > 128, api.ErrField)
	note(!utf8.ValidString(e.Type), api.ErrText)
	note(len(e.Key) > 255, api.ErrField)
	note(!e.State && e.Key != "", api.ErrField)
	note(!utf8.ValidString(e.Key), api.ErrText)
	note(e.TS < 0 || e.TS > 9007199254740991, api.ErrArg)
	note(len(e.Prev) > 8, api.ErrLong)
	known := map[string]bool{e.ID: true}
	for _, id := range e.Prev {
		note(!slowID.MatchString(id), api.ErrID)
		note(known[id], api.ErrTwice)
		known[id] = true
	}
	note(isSlowRedaction(e) && !slowID.MatchString(e.Redacts), api.ErrID)
	note(!isSlowRedaction(e) && e.Redacts != "", api.ErrField)
	note(e.Body.Kind != 6, api.ErrKind)
	if len(wrong) > 0 {
		return wrong[0]
	}
	if err := json.Check(slowObject(e)); err != api.OK {
		return err
	}
	if len(slowText(e)) > 4096 {
		return api.ErrLong
	}
	return api.OK
}

// slowObject has its keys in the order of the chapter.
func slowObject(e api.Event) api.Json {
	var prev []api.Json
	for _, id := range e.Prev {
		prev = append(prev, text(id))
	}
	o := object("content event_id origin_server_ts prev_events room_id sender type",
		e.Body, text(e.ID), number(e.TS), list(prev...), text(e.Room), text(e.Sender), text(e.Type))
	if e.State {
		o.Keys = append(o.Keys, "state_key")
		o.Items = append(o.Items, text(e.Key))
	}
	if isSlowRedaction(e) {
		o.Keys = append(o.Keys, "redacts")
		o.Items = append(o.Items, text(e.Redacts))
	}
	return o
}

// slowText writes the bytes of a valid event as sorted lines.
func slowText(e api.Event) string {
	body, _ := canon.Bytes(e.Body)
	var prev []string
	for _, id := range e.Prev {
		prev = append(prev, slowLiteral(id))
	}
	pairs := []string{
		`"content":` + body,
		`"event_id":` + slowLiteral(e.ID),
		`"room_id":` + slowLiteral(e.Room),
		`"sender":` + slowLiteral(e.Sender),
		`"type":` + slowLiteral(e.Type),
		fmt.Sprintf(`"origin_server_ts":%d`, e.TS),
		`"prev_events":[` + strings.Join(prev, ",") + `]`,
	}
	if e.State {
		pairs = append(pairs, `"state_key":`+slowLiteral(e.Key))
	}
	if isSlowRedaction(e) {
		pairs = append(pairs, `"redacts":`+slowLiteral(e.Redacts))
	}
	sort.Strings(pairs)
	return "{" + strings.Join(pairs, ",") + "}"
}

func slowLiteral(s string) string {
	b, _ := canon.Bytes(text(s))
	return b
}

// slowRead asks for each key by itself.
func slowRead(s string) (api.Event, api.Errno) {
	v, err := json.Parse(s)
	switch {
	case len(s) > 4096:
		return api.Event{}, api.ErrLong
	case err != api.OK:
		return api.Event{}, err
	case v.Kind != 6:
		return api.Event{}, api.ErrKind
	}
	kinds := map[string]int{"content": 6, "event_id": 4, "origin_server_ts": 3, "prev_events": 5, "room_id": 4, "sender": 4, "type": 4, "state_key": 4, "redacts": 4}
	values := map[string]api.Json{}
	wrong := false
	for i, key := range v.Keys {
		if kinds[key] == 0 {
			return api.Event{}, api.ErrField
		}
		values[key] = v.Items[i]
		wrong = wrong || v.Items[i].Kind != kinds[key]
	}
	for key := range kinds {
		if _, has := values[key]; !has && key != "state_key" && key != "redacts" {
			return api.Event{}, api.ErrField
		}
	}
	e := api.Event{
		ID: values["event_id"].Text, Room: values["room_id"].Text, Sender: values["sender"].Text, Type: values["type"].Text,
		Key: values["state_key"].Text, TS: values["origin_server_ts"].N, Redacts: values["redacts"].Text, Body: values["content"],
	}
	for _, x := range values["prev_events"].Items {
		wrong = wrong || x.Kind != 4
		e.Prev = append(e.Prev, x.Text)
	}
	if wrong {
		return api.Event{}, api.ErrKind
	}
	_, e.State = values["state_key"]
	if _, has := values["redacts"]; has != isSlowRedaction(e) {
		return api.Event{}, api.ErrField
	}
	if err := slowCheck(e); err != api.OK {
		return api.Event{}, err
	}
	return e, api.OK
}
