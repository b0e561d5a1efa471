package event_test

import (
	"fmt"
	"math"
	"slices"
	"strings"
	"testing"

	"outlaw/api"
	"outlaw/event"
	"outlaw/jsontest"
)

// checkIs checks what Check, and Bytes with it, say of e.
func checkIs(t *testing.T, e api.Event, want api.Errno) {
	t.Helper()
	if got := event.Check(e); got != want {
		t.Errorf("%.300s: %d, want %d", show(e), got, want)
	}
	b, got := event.Bytes(e)
	if got != want || (b == "") != (want != api.OK) {
		t.Errorf("%.300s: %.300q %d, want %d", show(e), b, got, want)
	}
}

// checkAll checks e once for each text that set puts into it.
func checkAll(t *testing.T, e api.Event, set func(e *api.Event, s string), want api.Errno, all ...string) {
	t.Helper()
	for _, s := range all {
		set(&e, s)
		checkIs(t, e, want)
	}
}

// P5.1: the ID, the room and the sender.
func TestCheckID(t *testing.T) {
	some := func(n int) string { return strings.Repeat("a", n) }
	id := func(e *api.Event, s string) { e.ID = s }
	checkAll(t, plain(), id, api.OK, "$b", "$Az09_-.~/", "$"+some(64))
	checkAll(t, plain(), id, api.ErrID, "", "$", "a", "!r:s", "@u:s", "s", "$a:s", "$é", "$a\xff", "$a ", "$"+some(65))
	room := func(e *api.Event, s string) { e.Room = s }
	checkAll(t, plain(), room, api.OK, "!a:b", "!A_.-:B.org:80", "!"+some(252)+":s")
	checkAll(t, plain(), room, api.ErrID, "", "!", "!r", "r:s", "$a", "@u:s", "s", "!r:s:", "!r=:s", "!\xff:s", "!"+some(253)+":s")
	sender := func(e *api.Event, s string) { e.Sender = s }
	checkAll(t, plain(), sender, api.OK, "@a:b", "@a=/+_.-:B.org:80", "@"+some(252)+":s")
	checkAll(t, plain(), sender, api.ErrID, "", "@", "@u", "u:s", "$a", "!r:s", "s", "@u:s:", "@U:s", "@\xff:s", "@"+some(253)+":s")
}

// P5.1: the type, and what state may have besides.
func TestCheckType(t *testing.T) {
	set := func(e *api.Event, s string) { e.Type = s }
	for _, state := range []bool{false, true} {
		e := plain()
		e.State = state
		checkAll(t, e, set, api.OK,
			"t", " ", "\x00", "\"", "m.room.create", "m.room.member", "m.room.power_levels", "m.room.server_acl", "m.room.redactions", "é", "\U0010ffff",
			strings.Repeat("a", 128), strings.Repeat("é", 64))
		checkAll(t, e, set, api.ErrField, "", strings.Repeat("a", 129), strings.Repeat("é", 65), strings.Repeat("\xff", 129), strings.Repeat("a", 1<<20))
		checkAll(t, e, set, api.ErrText, "\xff", "a\xc3", "\xed\xa0\x80", strings.Repeat("a", 127)+"\xff")
	}
}

// P5.1: the key, which only state may have.
func TestCheckKey(t *testing.T) {
	set := func(e *api.Event, s string) { e.Key = s }
	checkAll(t, but(plain(), isState), set, api.OK, "", "k", " ", "\x00\"", "@u:s", "é", strings.Repeat("a", 255), strings.Repeat("é", 127))
	checkAll(t, but(plain(), isState), set, api.ErrField, strings.Repeat("a", 256), strings.Repeat("é", 128), strings.Repeat("\xff", 256), strings.Repeat("a", 1<<20))
	checkAll(t, but(plain(), isState), set, api.ErrText, "\xff", "a\xc3", "\xed\xa0\x80", strings.Repeat("a", 254)+"\xff")
	checkAll(t, plain(), set, api.OK, "")
	checkAll(t, plain(), set, api.ErrField, "k", " ", "\x00", "@u:s", "\xff", strings.Repeat("a", 255), strings.Repeat("a", 256), strings.Repeat("\xff", 256))
}

func isState(e *api.Event) { e.State = true }

// P5.1: the time.
func TestCheckTS(t *testing.T) {
	for _, x := range []struct {
		ts   int64
		want api.Errno
	}{
		{0, api.OK}, {1, api.OK}, {1 << 31, api.OK}, {1 << 32, api.OK}, {1<<53 - 1, api.OK},
		{1 << 53, api.ErrArg}, {-1, api.ErrArg}, {-1 << 53, api.ErrArg}, {math.MaxInt64, api.ErrArg}, {math.MinInt64, api.ErrArg},
	} {
		checkIs(t, but(plain(), func(e *api.Event) { e.TS = x.ts }), x.want)
	}
}

// P5.1: how many Prev there are, and then one by one.
func TestCheckPrev(t *testing.T) {
	for _, x := range []struct {
		prev string
		want api.Errno
	}{
		{"", api.OK},
		{"$b", api.OK},
		{"$b $A $c", api.OK},
		{"$1 $2 $3 $4 $5 $6 $7 $8", api.OK},
		{"$1 $2 $3 $4 $5 $6 $7 $8 $9", api.ErrLong},
		{"$1 $1 $1 $1 $1 $1 $1 $1 $1", api.ErrLong},
		{"a a a a a a a a a", api.ErrLong},
		{strings.Repeat("$b ", 1000), api.ErrLong},
		{"a", api.ErrID},
		{"$", api.ErrID},
		{"!r:s", api.ErrID},
		{"\xff", api.ErrID},
		{"$" + strings.Repeat("b", 65), api.ErrID},
		{"$b a", api.ErrID},
		{"$1 $2 $3 $4 $5 $6 $7 8", api.ErrID},
		{"$a", api.ErrTwice},
		{"$b $a", api.ErrTwice},
		{"$b $b", api.ErrTwice},
		{"$b $c $b", api.ErrTwice},
		{"$1 $2 $3 $4 $5 $6 $7 $1", api.ErrTwice},
		{"$1 $2 $3 $4 $5 $6 $7 $a", api.ErrTwice},
		{"$b $b a", api.ErrTwice},
		{"$a a", api.ErrTwice},
		{"a $a", api.ErrID},
		{"a a", api.ErrID},
		{"$b a $b", api.ErrID},
	} {
		checkIs(t, but(plain(), func(e *api.Event) { e.Prev = strings.Fields(x.prev) }), x.want)
	}
	checkIs(t, but(plain(), func(e *api.Event) { e.Prev = []string{""} }), api.ErrID)
	checkIs(t, but(plain(), func(e *api.Event) { e.Prev = []string{"$b", "", ""} }), api.ErrID)
}

// P5.1: each two of Prev, and each with the ID.
func TestCheckPrevTwice(t *testing.T) {
	e := plain()
	e.Prev = strings.Fields("$1 $2 $3 $4 $5 $6 $7 $8")
	for i := range e.Prev {
		was := e.Prev[i]
		for _, id := range append(slices.Clone(e.Prev[:i]), e.ID) {
			e.Prev[i] = id
			checkIs(t, e, api.ErrTwice)
		}
		e.Prev[i] = was
	}
	checkIs(t, e, api.OK)
}

// P5.1: what is redacted, and by what alone.
func TestCheckRedacts(t *testing.T) {
	set := func(e *api.Event, s string) { e.Redacts = s }
	checkAll(t, redaction(), set, api.OK, "$b", "$a", "$"+strings.Repeat("a", 64))
	checkAll(t, redaction(), set, api.ErrID, "", "$", "a", "!r:s", "@u:s", "\xff", "$"+strings.Repeat("a", 65))
	for _, e := range []api.Event{plain(), rich(), but(redaction(), isState)} {
		checkAll(t, e, set, api.OK, "")
		checkAll(t, e, set, api.ErrField, "$x", "x", "\xff", " ")
	}
	checkIs(t, but(redaction(), func(e *api.Event) { e.Prev = []string{"$x"} }), api.OK)
}

// P5.1: a body that is no object, and the error of json.Check for the whole.
func TestCheckBody(t *testing.T) {
	many := func(n int) []api.Json { return slices.Repeat([]api.Json{null()}, n) }
	for _, x := range []struct {
		body api.Json
		want api.Errno
	}{
		{object(""), api.OK},
		{object("b a", null(), object("d c", list(), truth(1))), api.OK},
		{object("a", jsontest.NestedLists(6)), api.OK},
		{object("a", list(many(391)...)), api.OK},
		{api.Json{}, api.ErrKind},
		{null(), api.ErrKind},
		{truth(2), api.ErrKind},
		{number(1 << 60), api.ErrKind},
		{text("\xff"), api.ErrKind},
		{list(object("")), api.ErrKind},
		{jsontest.NestedLists(9), api.ErrKind},
		{api.Json{Kind: 7}, api.ErrKind},
		{api.Json{Kind: -6}, api.ErrKind},
		{object("a", api.Json{}), api.ErrKind},
		{object("a", jsontest.NestedLists(7)), api.ErrDepth},
		{object("a b", api.Json{}, jsontest.NestedLists(7)), api.ErrDepth},
		{object("a", list(many(392)...)), api.ErrLong},
		{object("a", list(many(400)...)), api.ErrLong},
		{object("a", list(append(many(391), api.Json{})...)), api.ErrLong},
		{object("a b", null()), api.ErrArg},
		{object("a", null(), null()), api.ErrArg},
		{api.Json{Kind: api.JsonObject, N: 1}, api.ErrArg},
		{api.Json{Kind: api.JsonObject, Text: "a"}, api.ErrArg},
		{object("a", number(1<<53)), api.ErrArg},
		{object("\xff", null()), api.ErrText},
		{object("a", list(text("\xff"))), api.ErrText},
		{object("a a", null(), null()), api.ErrTwice},
		{object("a b", text("\xff"), truth(2)), api.ErrText},
		{object("a a", truth(2), null()), api.ErrTwice},
		{object("a", text(strings.Repeat("a", 4097))), api.ErrLong},
		{object("a b", text(strings.Repeat("a", 4097)), truth(2)), api.ErrArg},
	} {
		checkIs(t, but(plain(), func(e *api.Event) { e.Body = x.body }), x.want)
	}
}

// P5.1: the values of the whole object count, those of Prev among them.
func TestCheckCount(t *testing.T) {
	for prev := range 9 {
		for _, e := range []api.Event{plain(), but(plain(), isState), redaction()} {
			for i := range prev {
				e.Prev = append(e.Prev, fmt.Sprintf("$%d", i))
			}
			others := 8 + prev + 1 // the object and its values, what is in Prev, and the list
			if e.State || e.Redacts != "" {
				others++
			}
			for extra := range 2 {
				e.Body = object("a", list(slices.Repeat([]api.Json{number(1)}, 400-others+extra)...))
				checkIs(t, e, []api.Errno{api.OK, api.ErrLong}[extra])
			}
		}
	}
}

// P5.1: of two things that are wrong, the one that the chapter names first.
func TestCheckOrder(t *testing.T) {
	type wrong struct {
		field  string
		change func(e *api.Event)
		err    api.Errno
	}
	all := []wrong{
		{"ID", func(e *api.Event) { e.ID = "" }, api.ErrID},
		{"Room", func(e *api.Event) { e.Room = "" }, api.ErrID},
		{"Sender", func(e *api.Event) { e.Sender = "" }, api.ErrID},
		{"Type", func(e *api.Event) { e.Type = strings.Repeat("\xff", 129) }, api.ErrField},
		{"Type", func(e *api.Event) { e.Type = "\xff" }, api.ErrText},
		{"Key", func(e *api.Event) { e.State, e.Key = true, strings.Repeat("\xff", 256) }, api.ErrField},
		{"Key", func(e *api.Event) { e.State, e.Key = false, "\xff" }, api.ErrField},
		{"Key", func(e *api.Event) { e.State, e.Key = true, "\xff" }, api.ErrText},
		{"TS", func(e *api.Event) { e.TS = -1 }, api.ErrArg},
		{"Prev", func(e *api.Event) { e.Prev = make([]string, 9) }, api.ErrLong},
		{"Prev", func(e *api.Event) { e.Prev = []string{"", ""} }, api.ErrID},
		{"Prev", func(e *api.Event) { e.Prev = []string{"$b", "$b", ""} }, api.ErrTwice},
		{"Redacts", func(e *api.Event) { e.Redacts = "\xff" }, api.ErrField},
		{"Body", func(e *api.Event) { e.Body = list(truth(2)) }, api.ErrKind},
		{"Body", func(e *api.Event) { e.Body = object("a", jsontest.NestedLists(7)) }, api.ErrDepth},
		{"Body", func(e *api.Event) { e.Body = object("a", truth(2), text(strings.Repeat("a", 5000))) }, api.ErrArg},
		{"Body", func(e *api.Event) { e.Body = object("a", text(strings.Repeat("a", 5000))) }, api.ErrLong},
	}
	for i, x := range all {
		for _, y := range all[i:] {
			if x.field != y.field || x.err == y.err {
				checkIs(t, but(plain(), y.change, x.change), x.err)
				checkIs(t, but(rich(), y.change, x.change), x.err)
			}
		}
	}
	noneRedacted := func(e *api.Event) { e.Redacts = "" }
	for _, x := range all {
		if x.field == "Type" || x.field == "Key" || x.field == "Redacts" {
			continue
		}
		want := x.err
		if x.field == "Body" {
			want = api.ErrID
		}
		checkIs(t, but(redaction(), noneRedacted, x.change), want)
	}
}

// P5.1 and P5.2: events of all fields, good and bad.
func TestCheckOfMany(t *testing.T) {
	type texts = []string
	bodies := []api.Json{object(""), object("b a", null(), text("\n")), list(), object("a a", null(), null()), object("a", text(strings.Repeat("a", 4000)))}
	prevs := []texts{nil, {"$b"}, {"$b", "$c"}, {"$a"}, {"$b", "$b"}, {"$b", "b"}, make(texts, 9)}
	types := texts{"t", "m.room.redaction", "", strings.Repeat("é", 64), strings.Repeat("é", 64) + "a", "\xff", "\n"}
	keys := texts{"", "k", "\xff", strings.Repeat("k", 255), strings.Repeat("k", 256)}
	for _, id := range (texts{"$a", "a", "$b"}) {
		for _, typ := range types {
			for _, state := range []bool{false, true} {
				for _, key := range keys {
					for _, ts := range []int64{0, -1, 1 << 53} {
						for _, prev := range prevs {
							for _, redacts := range (texts{"", "$x", "x"}) {
								for _, body := range bodies {
									likeSlow(t, api.Event{ID: id, Room: "!r:s", Sender: "@u:s", Type: typ, State: state, Key: key, TS: ts, Prev: prev, Redacts: redacts, Body: body})
								}
							}
						}
					}
				}
			}
		}
	}
}

// likeSlow checks e against the slow ways, there and back.
func likeSlow(t *testing.T, e api.Event) {
	t.Helper()
	want, err := "", slowCheck(e)
	if err == api.OK {
		want = slowText(e)
	}
	b, got := event.Bytes(e)
	if b != want || got != err || event.Check(e) != err {
		t.Errorf("%s: %q %d, want %q %d", show(e), b, got, want, err)
	}
	if err == api.OK {
		comesBack(t, e)
	}
}
