package event_test

import (
	"fmt"
	"runtime/debug"
	"strings"
	"testing"
	"unsafe"

	"outlaw/api"
	"outlaw/event"
	"outlaw/eventtest"
	"outlaw/json"
	"outlaw/jsontest"
)

// The values of the tests, by short names.
var (
	null   = jsontest.Null
	truth  = jsontest.Truth
	number = jsontest.Number
	text   = jsontest.Text
	list   = jsontest.List
	object = jsontest.Object
)

// What is done with the events of the tests, by short names.
var (
	but     = eventtest.But
	show    = eventtest.Show
	showAll = eventtest.ShowAll
	roomy   = eventtest.Roomy
)

// plain returns the event of the chapter's example.
func plain() api.Event {
	return api.Event{ID: "$a", Room: "!r:s", Sender: "@u:s", Type: "t", TS: 1, Body: object("")}
}

// rich returns a valid event that uses all fields but Redacts.
func rich() api.Event {
	return api.Event{
		ID: "$b", Room: "!r:s", Sender: "@u:s", Type: "m.room.member", State: true, Key: "@v:s", TS: 7,
		Prev: []string{"$a", "$c"}, Body: object("b a", number(1), list(text("é"))),
	}
}

// redaction returns a valid redaction.
func redaction() api.Event {
	e := plain()
	e.Type, e.Redacts = "m.room.redaction", "$x"
	return e
}

// different returns events of which no two are equal, many of them not valid.
func different() []api.Event {
	all := []api.Event{{}, plain(), rich(), redaction(), {Prev: []string{""}}, {Prev: []string{"", ""}}}
	for _, change := range []func(e *api.Event){
		func(e *api.Event) { e.ID = "$c" },
		func(e *api.Event) { e.ID = "" },
		func(e *api.Event) { e.Room = "!q:s" },
		func(e *api.Event) { e.Sender = "@v:s" },
		func(e *api.Event) { e.Type = "u" },
		func(e *api.Event) { e.Type = "m.room.redaction" },
		func(e *api.Event) { e.State = !e.State },
		func(e *api.Event) { e.Key = "\xff" },
		func(e *api.Event) { e.TS = -1 },
		func(e *api.Event) { e.TS = 1 << 32 },
		func(e *api.Event) { e.Prev = []string{"$c"} },
		func(e *api.Event) { e.Prev = []string{"$c", "$a"} },
		func(e *api.Event) { e.Prev = []string{"$a", "$c", "$a"} },
		func(e *api.Event) { e.Prev = []string{"$a$c"} },
		func(e *api.Event) { e.Redacts = "$a" },
	} {
		all = append(all, but(plain(), change), but(rich(), change))
	}
	for i, v := range jsontest.Different() {
		e := plain()
		e.ID, e.Body = fmt.Sprintf("$body%d", i), v
		all = append(all, e)
	}
	return all
}

// The numbers and the type that the document gives.
func TestNumbers(t *testing.T) {
	if api.MostEvent != 4096 || api.MostPrev != 8 || api.MostType != 128 || api.MostIdent != 255 || api.MostNumber != 9007199254740991 {
		t.Error("limits")
	}
	if api.TypeRedaction != "m.room.redaction" {
		t.Error(api.TypeRedaction)
	}
}

// P5.1: what a redaction is, also of what is not valid.
func TestRedaction(t *testing.T) {
	for _, x := range []struct {
		e    api.Event
		want bool
	}{
		{redaction(), true},
		{api.Event{Type: "m.room.redaction"}, true},
		{api.Event{Type: "m.room.redaction", Key: "k", TS: -1}, true},
		{api.Event{Type: "m.room.redaction", State: true}, false},
		{api.Event{Type: "m.room.redaction", State: true, Redacts: "$a"}, false},
		{api.Event{Type: "m.room.redactio", Redacts: "$a"}, false},
		{api.Event{Type: "m.room.redactions", Redacts: "$a"}, false},
		{api.Event{Type: "M.room.redaction", Redacts: "$a"}, false},
		{api.Event{}, false},
		{plain(), false},
		{rich(), false},
	} {
		if got := event.Redaction(x.e); got != x.want {
			t.Errorf("%s: %v", show(x.e), got)
		}
	}
}

// P5.1: Same tells each field, of any two events.
func TestSame(t *testing.T) {
	all := different()
	for i, a := range all {
		for j, b := range all {
			if event.Same(a, roomy(b)) != (i == j) {
				t.Errorf("%s and %s: %v", show(a), show(b), i != j)
			}
		}
	}
}

// Rule 4: a nil slice and an empty one are the same.
func TestSameOfNone(t *testing.T) {
	a, b := plain(), plain()
	b.Prev, b.Body.Keys, b.Body.Items = []string{}, []string{}, make([]api.Json, 0, 3)
	if !event.Same(a, b) || !event.Same(b, a) || event.Compare(a, b) != 0 {
		t.Error("not the same")
	}
}

// P5.1: the keys of a body are compared in the same order.
func TestSameOfKeys(t *testing.T) {
	a, b := rich(), rich()
	b.Body = object("a b", list(text("é")), number(1))
	if event.Same(a, b) || event.Compare(a, b) != 0 {
		t.Error("the same, or not the same bytes")
	}
}

// P5.1: a copy is equal and has memory of its own.
func TestCopy(t *testing.T) {
	for _, e := range different() {
		e = roomy(e)
		before := showAll(e)
		c := event.Copy(e)
		if show(c) != show(e) || !event.Same(c, e) {
			t.Errorf("%s: %s", show(e), show(c))
		}
		if !jsontest.Apart(c.Body, e.Body) {
			t.Errorf("%s: the body is shared", show(e))
		}
		for i := range c.Prev {
			c.Prev[i] = "changed"
		}
		spare := c.Prev[:cap(c.Prev)]
		for i := range spare {
			spare[i] = "changed"
		}
		if showAll(e) != before {
			t.Errorf("%s: its Prev are shared", before)
		}
	}
}

// Rule 3: what was in spare capacity is not returned.
func TestCopyLeavesSpareCapacity(t *testing.T) {
	c := event.Copy(roomy(rich()))
	for _, id := range c.Prev[:cap(c.Prev)] {
		if strings.HasSuffix(id, "spare") || strings.HasSuffix(id, "more") {
			t.Error(id)
		}
	}
}

// P5.1: not even the bytes of strings are shared.
func TestCopyOfStrings(t *testing.T) {
	e := rich()
	e.Redacts = "$x"
	c := event.Copy(e)
	for i, x := range texts(&c) {
		if s := *texts(&e)[i]; unsafe.StringData(*x) == unsafe.StringData(s) {
			t.Errorf("%q is shared", s)
		}
	}
}

// texts lists the strings of a rich event.
func texts(e *api.Event) []*string {
	return []*string{
		&e.ID, &e.Room, &e.Sender, &e.Type, &e.Key, &e.Redacts, &e.Prev[0], &e.Prev[1],
		&e.Body.Keys[0], &e.Body.Keys[1], &e.Body.Items[1].Items[0].Text,
	}
}

// P5.1: the bytes are compared, of which what is not valid has none.
func TestCompare(t *testing.T) {
	bytesOf := func(e api.Event) string {
		b, _ := event.Bytes(e)
		return b
	}
	all := different()
	for _, a := range all {
		for _, b := range all {
			if got := event.Compare(a, b); got != strings.Compare(bytesOf(a), bytesOf(b)) {
				t.Errorf("%s and %s: %d", show(a), show(b), got)
			}
		}
	}
}

// P5.1: which field decides, and which way.
func TestCompareOfFields(t *testing.T) {
	for _, x := range []struct {
		name string
		less func(e *api.Event)
	}{
		{"a body", func(e *api.Event) { e.Body = object("z A", number(9), null()) }},
		{"an ID", func(e *api.Event) { e.ID = "$A" }},
		{"digits", func(e *api.Event) { e.TS = 10 }},
		{"a Prev", func(e *api.Event) { e.Prev = []string{"$a", "$D"} }},
		{"a further Prev", func(e *api.Event) { e.Prev = []string{"$a", "$c", "$d"} }},
		{"a room", func(e *api.Event) { e.Room = "!R:s" }},
		{"a sender", func(e *api.Event) { e.Sender = "@u:S" }},
		{"a key", func(e *api.Event) { e.Key = "@V:s" }},
		{"a type", func(e *api.Event) { e.Type = "m.room.member " }},
		{"all that is not valid", func(e *api.Event) { e.ID = "a" }},
	} {
		a, b := but(rich(), x.less), rich()
		if event.Compare(a, b) != -1 || event.Compare(b, a) != 1 || event.Compare(a, a) != 0 {
			t.Errorf("%s: %d %d", x.name, event.Compare(a, b), event.Compare(b, a))
		}
	}
	a, b := but(plain(), func(e *api.Event) { e.TS = -1 }), but(rich(), func(e *api.Event) { e.Prev = []string{""} })
	if event.Compare(a, b) != 0 {
		t.Error("what is not valid has no bytes")
	}
}

// No call changes what it is given, nor what stands in its spare capacity.
func TestArgumentsStay(t *testing.T) {
	for _, e := range different() {
		a, b := roomy(e), roomy(rich())
		before := showAll(a) + showAll(b)
		event.Check(a)
		event.Bytes(a)
		event.Same(a, b)
		event.Copy(a)
		event.Compare(a, b)
		event.Redaction(a)
		if after := showAll(a) + showAll(b); after != before {
			t.Errorf("%s became %s", before, after)
		}
	}
}

// T7: bodies that are deeper than calls can be, or that have no end.
func TestDeepBodies(t *testing.T) {
	defer debug.SetMaxStack(debug.SetMaxStack(1 << 20))
	e := plain()
	e.Body = object("a", jsontest.NestedLists(1<<18))
	if err := event.Check(e); err != api.ErrDepth {
		t.Error(err)
	}
	if c := event.Copy(e); !event.Same(c, e) || json.Depth(c.Body) != 1<<18+1 {
		t.Error("a copy")
	}
	if got := event.Compare(e, plain()); got != -1 {
		t.Error(got)
	}
	e.Body = api.Json{Kind: api.JsonObject, Keys: []string{"a", "b"}, Items: make([]api.Json, 2)}
	e.Body.Items[0], e.Body.Items[1] = e.Body, e.Body
	if err := event.Check(e); err != api.ErrDepth {
		t.Error(err)
	}
	if b, err := event.Bytes(e); b != "" || err != api.ErrDepth {
		t.Error(b, err)
	}
	if got := event.Compare(e, plain()); got != -1 {
		t.Error(got)
	}
}
