package eventtest_test

import (
	"testing"

	"outlaw/api"
	"outlaw/eventtest"
	"outlaw/jsontest"
)

func rich() api.Event {
	return api.Event{ID: "a", Room: "b", Sender: "c", Type: "d\"", State: true, Key: "e", TS: -1, Prev: []string{"f", "g h"}, Redacts: "i", Body: jsontest.List(jsontest.Null())}
}

// Each field is seen in what Show writes.
func TestShow(t *testing.T) {
	if got, want := eventtest.Show(rich()), `"a" "b" "c" "d\"" true "e" -1 [ "f" "g h" ] "i" 5 0 "" (1 0 "" ())`; got != want {
		t.Errorf("%s, want %s", got, want)
	}
	if eventtest.Show(eventtest.Roomy(rich())) != eventtest.Show(rich()) {
		t.Error("spare capacity")
	}
}

// What stands in spare capacity is seen by ShowAll alone, and so is where it begins.
func TestShowAll(t *testing.T) {
	for _, change := range []func(e *api.Event){
		func(e *api.Event) { e.Prev[:3][2] = "changed" },
		func(e *api.Event) { e.Body.Items[:2][1].N = 7 },
	} {
		e := eventtest.Roomy(rich())
		shown, all := eventtest.Show(e), eventtest.ShowAll(e)
		change(&e)
		if eventtest.Show(e) != shown || eventtest.ShowAll(e) == all {
			t.Errorf("%s, %s", eventtest.Show(e), eventtest.ShowAll(e))
		}
	}
	e := eventtest.Roomy(rich())
	all := eventtest.ShowAll(e)
	e.Prev = e.Prev[:3]
	if eventtest.ShowAll(e) == all {
		t.Error("the length")
	}
}

func TestBut(t *testing.T) {
	e := rich()
	f := eventtest.But(e, func(e *api.Event) { e.TS++ }, func(e *api.Event) { e.TS += 2 })
	if e.TS != -1 || f.TS != 2 || eventtest.Show(eventtest.But(e)) != eventtest.Show(e) {
		t.Errorf("%d, %d", e.TS, f.TS)
	}
}

func TestApart(t *testing.T) {
	e := eventtest.Roomy(rich())
	if !eventtest.Apart() || !eventtest.Apart(e) || !eventtest.Apart(e, eventtest.Roomy(e), api.Event{}) {
		t.Error("apart")
	}
	for _, f := range []api.Event{e, {Prev: e.Prev[2:2:3]}, {Body: jsontest.List(e.Body)}} {
		if eventtest.Apart(e, f) || eventtest.Apart(f, e) {
			t.Errorf("%s", eventtest.Show(f))
		}
	}
}
