package event_test

import (
	"strings"
	"testing"

	"outlaw/api"
	"outlaw/event"
	"outlaw/jsontest"
)

func readIs(t *testing.T, s string, want api.Event, err api.Errno) {
	t.Helper()
	got, gotErr := event.Read(s)
	if show(got) != show(want) || gotErr != err {
		t.Errorf("%.400q: %s %d, want %s %d", s, show(got), gotErr, show(want), err)
	}
	if gotErr == api.OK {
		if err := event.Check(got); err != api.OK {
			t.Errorf("%.400q: what is read is not valid: %d", s, err)
		}
	}
}

// refused checks that all texts are refused with that error.
func refused(t *testing.T, err api.Errno, all ...string) {
	t.Helper()
	for _, s := range all {
		readIs(t, s, api.Event{}, err)
	}
}

// pairs are the keys of the chapter's example, with their values.
var pairs = []string{`"content":{}`, `"event_id":"$a"`, `"origin_server_ts":1`, `"prev_events":[]`, `"room_id":"!r:s"`, `"sender":"@u:s"`, `"type":"t"`}

// with returns the text of an object of pairs, and more. A pair that begins
// with the key of one of pairs stands in place of it.
func with(more ...string) string {
	all := append([]string{}, pairs...)
	for _, m := range more {
		key, _, _ := strings.Cut(m, ":")
		at := len(all)
		for i := range pairs {
			if strings.HasPrefix(pairs[i], key+":") {
				at = i
			}
		}
		if at < len(all) {
			all[at] = m
		} else {
			all = append(all, m)
		}
	}
	return "{" + strings.Join(all, ",") + "}"
}

// P5.2: texts of events, in any order of keys, with blanks and escapes.
func TestRead(t *testing.T) {
	readIs(t, with(), plain(), api.OK)
	readIs(t, " \t\r\n"+strings.ReplaceAll(strings.ReplaceAll(with(), ",", " , "), ":{", " : { ")+"\n", plain(), api.OK)
	backwards := ""
	for _, p := range pairs {
		backwards = p + "," + backwards
	}
	readIs(t, "{"+strings.TrimSuffix(backwards, ",")+"}", plain(), api.OK)
	readIs(t, strings.Replace(with(), `"type":"t"`, `"\u0074ype":"\u0074"`, 1), plain(), api.OK)
	readIs(t, strings.Replace(with(), `"$a"`, `"\u0024a"`, 1), plain(), api.OK)
	readIs(t, with(`"state_key":""`), but(plain(), isState), api.OK)
	readIs(t, with(`"state_key":"\ud83d\ude00"`), but(plain(), isState, func(e *api.Event) { e.Key = "\U0001f600" }), api.OK)
	readIs(t, with(`"type":"m.room.redaction"`, `"redacts":"$x"`), redaction(), api.OK)
	readIs(t, with(`"redacts":"$x"`, `"type":"m.room.redaction"`), redaction(), api.OK)
	readIs(t, with(`"type":"m.room.redaction"`, `"state_key":""`), but(plain(), isState, func(e *api.Event) { e.Type = "m.room.redaction" }), api.OK)
	readIs(t, with(`"prev_events":["$c", "$b"]`), but(plain(), func(e *api.Event) { e.Prev = []string{"$c", "$b"} }), api.OK)
	readIs(t, with(`"origin_server_ts":9007199254740991`), but(plain(), func(e *api.Event) { e.TS = 9007199254740991 }), api.OK)
	readIs(t, with(`"content":{"b":1,"a":{"d":[],"c":null}}`), but(plain(), func(e *api.Event) {
		e.Body = object("b a", number(1), object("d c", list(), null()))
	}), api.OK)
}

// P5.2: more bytes than an event may have, whatever they are.
func TestReadLong(t *testing.T) {
	blanks := strings.Repeat(" ", 4096)
	readIs(t, with()+blanks[len(with()):], plain(), api.OK)
	readIs(t, blanks[len(with()):]+with(), plain(), api.OK)
	refused(t, api.ErrLong, with()+blanks[len(with()):]+" ", strings.Repeat("[", 4097), strings.Repeat("\xff", 4097), strings.Repeat("a", 1<<20), blanks+" ")
	refused(t, api.ErrShort, blanks)
	refused(t, api.ErrDepth, strings.Repeat("[", 4096))
	refused(t, api.ErrBad, strings.Repeat("\xff", 4096))
}

// P5.2: the errors of json.Parse, before all others.
func TestReadParse(t *testing.T) {
	refused(t, api.ErrShort, "", " ", "{", `{"content"`, strings.TrimSuffix(with(), "}"), `"`, "[", "tru", "-")
	refused(t, api.ErrBad, "a", "}", with()+"}", with()+" 1", with(`"content":{]`), `{"a":1,}`, `{a:1}`, "nulL", "01", "'a'")
	refused(t, api.ErrLong, with(`"origin_server_ts":9007199254740992`), "9007199254740992", "["+strings.Repeat("1,", 399)+"1]")
	refused(t, api.ErrText, with("\"state_key\":\"\xff\""), "\"\xff\"", `{"\udc00":1}`)
	refused(t, api.ErrDepth, strings.Repeat("[", 9)+strings.Repeat("]", 9), with(`"content":{"a":[[[[[[[]]]]]]]}`))
	refused(t, api.ErrTwice, with(`"content":{"a":1,"a":2}`), `{"a":1,"a":2}`, `{"type":"t","type":"t"}`, with(`"\u0074ype":"t"`), strings.TrimSuffix(with(), "}")+`,"content":{}}`)
}

// P5.2: what is no object.
func TestReadNoObject(t *testing.T) {
	refused(t, api.ErrKind, "null", "true", "false", "0", "-1", `""`, `"a"`, "[]", " [ {} ] ", "["+with()+"]")
}

// P5.2: each key that is missing, and some that are unknown.
func TestReadFields(t *testing.T) {
	refused(t, api.ErrField, "{}", `{"a":1}`, `{"type":"t"}`, `{"state_key":"","redacts":"$x"}`)
	for i := range pairs {
		var some []string
		for j, p := range pairs {
			if j != i {
				some = append(some, p)
			}
		}
		fewer := "{" + strings.Join(some, ",")
		refused(t, api.ErrField, fewer+"}", fewer+`,"state_key":""}`, fewer+`,"state_key":1}`, fewer+`,"redacts":"$x"}`, fewer+`,"x":null}`)
	}
	for _, key := range []string{"", "x", "Type", "type ", " type", "typ", "types", "event", "state", "stateKey", "redact", "prev_event", "origin_server", "auth_events", "\\u0000", "é"} {
		refused(t, api.ErrField, with(`"`+key+`":"t"`), with(`"`+key+`":{}`), with(`"state_key":""`, `"`+key+`":1`), `{"`+key+`":"a"}`)
	}
	for _, key := range []string{"content", "event_id", "origin_server_ts", "prev_events", "room_id", "sender", "type"} {
		refused(t, api.ErrField, with(`"x":1`, `"`+key+`":null`))
	}
}

// P5.2: each key with a value of each other kind.
func TestReadKinds(t *testing.T) {
	kinds := map[string]string{"null": "", "true": "", "false": "", "1": "origin_server_ts", `"t"`: "text", "[]": "prev_events", "{}": "content"}
	for _, key := range []string{"content", "event_id", "origin_server_ts", "prev_events", "room_id", "sender", "type", "state_key", "redacts"} {
		for value, owner := range kinds {
			isText := key != "content" && key != "origin_server_ts" && key != "prev_events"
			if owner == key || owner == "text" && isText {
				continue
			}
			refused(t, api.ErrKind, with(`"`+key+`":`+value), with(`"type":"m.room.redaction"`, `"`+key+`":`+value))
		}
	}
	for _, value := range []string{`[1]`, `["$b",null]`, `[["$b"]]`, `[{}]`, `["","",true]`, `["1","2","3","4","5","6","7","8","9",10]`} {
		refused(t, api.ErrKind, with(`"prev_events":`+value))
	}
}

// P5.2: redacts without a redaction, and a redaction without it.
func TestReadRedacts(t *testing.T) {
	refused(t, api.ErrField,
		with(`"redacts":"$x"`), with(`"redacts":""`), with(`"state_key":"k"`, `"redacts":"$x"`), with(`"type":"m.room.redactions"`, `"redacts":"$x"`),
		with(`"type":"m.room.redaction"`), with(`"type":"m.room.redaction"`, `"state_key":""`, `"redacts":"$x"`),
		with(`"type":"m.room.redaction"`, `"state_key":""`, `"redacts":""`),
	)
}

// P5.2: the errors of Check for what was read.
func TestReadChecks(t *testing.T) {
	refused(t, api.ErrID,
		with(`"event_id":""`), with(`"room_id":"r:s"`), with(`"sender":"@U:s"`), with(`"prev_events":[""]`), with(`"prev_events":["$b","b"]`),
		with(`"type":"m.room.redaction"`, `"redacts":""`), with(`"type":"m.room.redaction"`, `"redacts":"x"`),
	)
	refused(t, api.ErrField, with(`"type":""`), with(`"type":"`+strings.Repeat("t", 129)+`"`), with(`"state_key":"`+strings.Repeat("k", 256)+`"`))
	refused(t, api.ErrArg, with(`"origin_server_ts":-1`), with(`"origin_server_ts":-9007199254740991`))
	refused(t, api.ErrTwice, with(`"prev_events":["$a"]`), with(`"prev_events":["$b","$b"]`))
	refused(t, api.ErrLong, with(`"prev_events":["$1","$2","$3","$4","$5","$6","$7","$8","$9"]`))
}

// P5.2: of two things that are wrong, the one that the chapter names first.
func TestReadOrder(t *testing.T) {
	blanks := strings.Repeat(" ", 4096)
	for _, x := range []struct {
		s    string
		want api.Errno
	}{
		{"[" + blanks, api.ErrLong},
		{`[{"a":1,"a":1}]`, api.ErrTwice},
		{with(`"x":1`, `"content":{"a":1,"a":1}`), api.ErrTwice},
		{with(`"x":1`) + "]", api.ErrBad},
		{`{"x":1}`, api.ErrField},
		{with(`"x":1`, `"content":[]`), api.ErrField},
		{with(`"x":1`, `"event_id":""`), api.ErrField},
		{with(`"event_id":"","type":1`), api.ErrTwice},
		{with(`"event_id":""`, `"type":1`), api.ErrKind},
		{with(`"redacts":"$x"`, `"type":1`), api.ErrKind},
		{with(`"type":"m.room.redaction"`, `"prev_events":{}`), api.ErrKind},
		{with(`"redacts":"$x"`, `"event_id":""`), api.ErrField},
		{with(`"type":"m.room.redaction"`, `"event_id":""`), api.ErrField},
		{with(`"event_id":""`, `"origin_server_ts":-1`), api.ErrID},
		{with(`"state_key":"`+strings.Repeat("k", 256)+`"`, `"origin_server_ts":-1`), api.ErrField},
	} {
		refused(t, x.want, x.s)
	}
}

// P5.2 and P5.3: objects of all choices of a few pairs, good and bad.
func TestReadOfMany(t *testing.T) {
	choices := [][]string{
		{`"content":{}`, `"content":{"b":[1],"a":"\u0041"}`, `"content":[]`, ``},
		{`"event_id":"$a"`, `"event_id":"a"`, `"event_id":1`},
		{`"origin_server_ts":0`, `"origin_server_ts":-1`, `"origin_server_ts":"1"`},
		{`"prev_events":[]`, `"prev_events":["$b"]`, `"prev_events":["$a"]`, `"prev_events":["$b",1]`},
		{`"room_id":"!r:s","sender":"@u:s"`, `"sender":"@u:s","room_id":"r"`, `"room_id":"!r:s"`},
		{`"type":"t"`, `"type":"m.room.redaction"`, `"type":""`, `"type":null`},
		{``, `"state_key":""`, `"state_key":"k"`, `"state_key":[]`},
		{``, `"redacts":"$x"`, `"redacts":""`, `"redacts":{}`},
		{``, `"x":1`},
	}
	var try func(s string, left [][]string)
	try = func(s string, left [][]string) {
		if len(left) == 0 {
			s = "{" + strings.TrimPrefix(s, ",") + "}"
			want, err := slowRead(s)
			readIs(t, s, want, err)
			return
		}
		for _, p := range left[0] {
			more := s
			if p != "" {
				more += "," + p
			}
			try(more, left[1:])
		}
	}
	try("", choices)
}

// P5.2: what is cut off, and every byte in place of each of a text.
func TestReadOfDamaged(t *testing.T) {
	for _, e := range []api.Event{plain(), rich(), redaction()} {
		b, _ := event.Bytes(e)
		for i := range b {
			refused(t, api.ErrShort, b[:i])
			for c := range 256 {
				s := b[:i] + string([]byte{byte(c)}) + b[i+1:]
				want, err := slowRead(s)
				readIs(t, s, want, err)
			}
		}
	}
}

// Rule 3: what is read has memory of its own, in each of its slices.
func TestReadMemory(t *testing.T) {
	b, _ := event.Bytes(rich())
	x, _ := event.Read(b)
	y, _ := event.Read(b)
	if !jsontest.Apart(x.Body, y.Body) {
		t.Error("bodies share memory")
	}
	for i := range x.Prev[:cap(x.Prev)] {
		x.Prev[:cap(x.Prev)][i] = "changed"
	}
	if show(y) != show(but(rich(), func(e *api.Event) { e.Body = object("a b", list(text("é")), number(1)) })) {
		t.Error(show(y))
	}
}
