// Package eventtest changes and shows events for tests of the layers.
package eventtest

import (
	"slices"
	"strconv"
	"strings"

	"outlaw/api"
	"outlaw/jsontest"
)

// But returns e after the changes.
func But(e api.Event, changes ...func(e *api.Event)) api.Event {
	for _, change := range changes {
		change(&e)
	}
	return e
}

// Show writes all fields of any event, so that equal texts mean equal events.
func Show(e api.Event) string {
	var words []string
	for _, s := range []string{e.ID, e.Room, e.Sender, e.Type} {
		words = append(words, strconv.Quote(s))
	}
	words = append(words, strconv.FormatBool(e.State), strconv.Quote(e.Key), strconv.FormatInt(e.TS, 10), "[")
	for _, id := range e.Prev {
		words = append(words, strconv.Quote(id))
	}
	return strings.Join(append(words, "]", strconv.Quote(e.Redacts), jsontest.Show(e.Body)), " ")
}

// ShowAll is Show of e, and then with the spare capacity of its slices.
func ShowAll(e api.Event) string {
	all := e
	all.Prev = e.Prev[:cap(e.Prev)]
	return Show(e) + " " + Show(all) + " " + jsontest.ShowAll(e.Body)
}

// Roomy returns a copy of e in which every slice has spare capacity, filled.
func Roomy(e api.Event) api.Event {
	e.Prev = append(slices.Clone(e.Prev), "$spare", "$more")[:len(e.Prev)]
	e.Body = jsontest.Roomy(e.Body)
	return e
}

// Apart reports whether no two slices in all the events share memory, also not
// in their spare capacity.
func Apart(events ...api.Event) bool {
	var all []api.Json
	for _, e := range events {
		all = append(all, e.Body, api.Json{Keys: e.Prev})
	}
	return jsontest.Apart(all...)
}
