package event

import (
	"outlaw/api"
	"outlaw/canon"
)

// The keys of an event. All have those up to the type; state has keyKey as well,
// and a redaction keyRedacts.
const (
	keyBody    = "content"
	keyID      = "event_id"
	keyTS      = "origin_server_ts"
	keyPrev    = "prev_events"
	keyRoom    = "room_id"
	keySender  = "sender"
	keyType    = "type"
	keyKey     = "state_key"
	keyRedacts = "redacts"
)

// Bytes returns the bytes of e.
func Bytes(e api.Event) (string, api.Errno) {
	if err := checkFields(&e); err != api.OK {
		return "", err
	}
	bytes, err := canon.Bytes(object(&e))
	switch {
	case err != api.OK:
		return "", err
	case len(bytes) > api.MostEvent:
		return "", api.ErrLong
	}
	return bytes, api.OK
}

// object returns the object of which the bytes of e are; its content is the
// body of e itself.
func object(e *api.Event) api.Json {
	o := api.Json{Kind: api.JsonObject}
	add := func(key string, v api.Json) {
		o.Keys = append(o.Keys, key)
		o.Items = append(o.Items, v)
	}
	add(keyBody, e.Body)
	add(keyID, text(e.ID))
	add(keyTS, api.Json{Kind: api.JsonNumber, N: e.TS})
	add(keyPrev, texts(e.Prev))
	add(keyRoom, text(e.Room))
	add(keySender, text(e.Sender))
	add(keyType, text(e.Type))
	if e.State {
		add(keyKey, text(e.Key))
	}
	if Redaction(*e) {
		add(keyRedacts, text(e.Redacts))
	}
	return o
}

func text(s string) api.Json {
	return api.Json{Kind: api.JsonText, Text: s}
}

func texts(all []string) api.Json {
	l := api.Json{Kind: api.JsonList}
	for _, s := range all {
		l.Items = append(l.Items, text(s))
	}
	return l
}
