package event

import (
	"slices"

	"outlaw/api"
	"outlaw/json"
)

// Read returns the event that s is the text of, which need not be its bytes.
func Read(s string) (api.Event, api.Errno) {
	if len(s) > api.MostEvent {
		return api.Event{}, api.ErrLong
	}
	v, err := json.Parse(s)
	if err != api.OK {
		return api.Event{}, err
	}
	e, err := fromObject(&v)
	if err != api.OK {
		return api.Event{}, err
	}
	if err := Check(e); err != api.OK {
		return api.Event{}, err
	}
	return e, api.OK
}

// fromObject returns what v, which has been parsed, says of an event.
func fromObject(v *api.Json) (api.Event, api.Errno) {
	if v.Kind != api.JsonObject {
		return api.Event{}, api.ErrKind
	}
	set := setters()
	if !hasAll(v.Keys) || !hasOnly(v.Keys, set) {
		return api.Event{}, api.ErrField
	}
	var e api.Event
	for i, key := range v.Keys {
		if !set[key](&e, v.Items[i]) {
			return api.Event{}, api.ErrKind
		}
	}
	if Redaction(e) != slices.Contains(v.Keys, keyRedacts) {
		return api.Event{}, api.ErrField
	}
	return e, api.OK
}

// hasAll reports whether the keys that every event has are among those given.
func hasAll(keys []string) bool {
	for _, key := range []string{keyBody, keyID, keyTS, keyPrev, keyRoom, keySender, keyType} {
		if !slices.Contains(keys, key) {
			return false
		}
	}
	return true
}

func hasOnly(keys []string, set map[string]func(*api.Event, api.Json) bool) bool {
	for _, key := range keys {
		if _, known := set[key]; !known {
			return false
		}
	}
	return true
}

// setters maps each key to what puts its value into an event, and reports
// whether it is of the kind that the key requires.
func setters() map[string]func(*api.Event, api.Json) bool {
	return map[string]func(*api.Event, api.Json) bool{
		keyBody: func(e *api.Event, v api.Json) bool {
			e.Body = v
			return v.Kind == api.JsonObject
		},
		keyTS: func(e *api.Event, v api.Json) bool {
			e.TS = v.N
			return v.Kind == api.JsonNumber
		},
		keyPrev: func(e *api.Event, v api.Json) bool {
			return v.Kind == api.JsonList && setTexts(&e.Prev, v.Items)
		},
		keyKey: func(e *api.Event, v api.Json) bool {
			e.State = true
			return setText(&e.Key, v)
		},
		keyID:      func(e *api.Event, v api.Json) bool { return setText(&e.ID, v) },
		keyRoom:    func(e *api.Event, v api.Json) bool { return setText(&e.Room, v) },
		keySender:  func(e *api.Event, v api.Json) bool { return setText(&e.Sender, v) },
		keyType:    func(e *api.Event, v api.Json) bool { return setText(&e.Type, v) },
		keyRedacts: func(e *api.Event, v api.Json) bool { return setText(&e.Redacts, v) },
	}
}

func setText(s *string, v api.Json) bool {
	*s = v.Text
	return v.Kind == api.JsonText
}

func setTexts(all *[]string, items []api.Json) bool {
	for _, v := range items {
		if v.Kind != api.JsonText {
			return false
		}
		*all = append(*all, v.Text)
	}
	return true
}
