package content_test

import (
	"runtime/debug"
	"slices"
	"strconv"
	"strings"
	"testing"
	"unsafe"

	"outlaw/api"
	"outlaw/content"
	"outlaw/json"
	"outlaw/jsontest"
)

func memberIs(t *testing.T, body api.Json, want int) {
	t.Helper()
	if got, is := content.MemberOf(body); got != want || is != (want != 0) {
		t.Errorf("%.300s: %d %v, want %d", jsontest.Show(body), got, is, want)
	}
}

func levelsAre(t *testing.T, body api.Json, want api.Levels, is bool) {
	t.Helper()
	if got, has := content.LevelsOf(body); show(got) != show(want) || has != is {
		t.Errorf("%.300s: %s %v, want %s %v", jsontest.Show(body), show(got), has, show(want), is)
	}
}

func ruleIs(t *testing.T, body api.Json, want api.RuleBody, is bool) {
	t.Helper()
	if got, has := content.RuleOf(body); got != want || has != is {
		t.Errorf("%.300s: %.300q %v, want %.300q %v", jsontest.Show(body), got, has, want, is)
	}
}

func aclIs(t *testing.T, body api.Json, want api.Acl, is bool) {
	t.Helper()
	if got, has := content.AclOf(body); show(got) != show(want) || has != is {
		t.Errorf("%.300s: %.300s %v, want %.300s %v", jsontest.Show(body), show(got), has, show(want), is)
	}
}

func creatorIs(t *testing.T, body api.Json, want string) {
	t.Helper()
	if got, is := content.CreatorOf(body); got != want || is != (want != "") {
		t.Errorf("%.300s: %q %v, want %q", jsontest.Show(body), got, is, want)
	}
}

// nothingIn checks that body has nothing for any function that reads.
func nothingIn(t *testing.T, body api.Json) {
	t.Helper()
	memberIs(t, body, 0)
	levelsAre(t, body, api.Levels{}, false)
	ruleIs(t, body, api.RuleBody{}, false)
	aclIs(t, body, api.Acl{}, false)
	creatorIs(t, body, "")
}

// initially returns the levels that the chapter calls the default ones.
func initially() api.Levels {
	return api.Levels{StateDefault: 50, Ban: 50, Kick: 50, Redact: 50}
}

// full returns a body in which every function that reads finds something.
func full() api.Json {
	return parse(`{"users":{"@b:s":1,"@a:s":2},"membership":"join","creator":"@a:s","entity":"e","reason":"r",
		"recommendation":"m.ban","allow":["*"],"deny":["x","y"],"events":{"t":3},"kick":4}`)
}

// The examples of the chapter.
func TestExamples(t *testing.T) {
	memberIs(t, parse(`{"membership":"ban"}`), api.MemberBan)
	ruleIs(t, parse(`{"entity":"@x:*","recommendation":"m.ban"}`), api.RuleBody{Entity: "@x:*", Recommendation: "m.ban"}, true)
	ruleIs(t, parse(`{}`), api.RuleBody{}, false)
	levelsAre(t, parse(`{}`), initially(), true)
}

// Keys that a function does not name do not matter to it, whatever is there.
func TestOtherKeys(t *testing.T) {
	levels := initially()
	levels.Users = []api.UserLevel{{User: "@a:s", N: 2}, {User: "@b:s", N: 1}}
	levels.Events, levels.Kick = []api.TypeLevel{{Type: "t", N: 3}}, 4
	for _, other := range []api.Json{null(), list(list()), object("users", text("x")), text(strings.Repeat("x", 1<<16))} {
		body := full()
		body.Keys = append([]string{"", "Membership", "ban "}, body.Keys...)
		body.Items = append([]api.Json{other, other, other}, body.Items...)
		memberIs(t, body, api.MemberJoin)
		levelsAre(t, body, levels, true)
		ruleIs(t, body, api.RuleBody{Entity: "e", Recommendation: "m.ban", Reason: "r"}, true)
		aclIs(t, body, api.Acl{Allow: []string{"*"}, Deny: []string{"x", "y"}}, true)
		creatorIs(t, body, "@a:s")
	}
}

// A body that is not an object, or not valid, has nothing.
func TestNoBody(t *testing.T) {
	for _, kind := range []int{0, 1, 2, 3, 4, 5, 7, -6} {
		body := full()
		body.Kind = kind
		nothingIn(t, body)
		nothingIn(t, api.Json{Kind: kind})
	}
	nothingIn(t, text("ban"))
	nothingIn(t, list(full()))
	for _, change := range []func(v *api.Json){
		func(v *api.Json) { v.N = 1 },
		func(v *api.Json) { v.Text = "a" },
		func(v *api.Json) { v.Keys = append(v.Keys, "other") },
		func(v *api.Json) { v.Items = append(v.Items, null()) },
		func(v *api.Json) { v.Keys[0] = "\xff" },
		func(v *api.Json) { v.Keys, v.Items = append(v.Keys, "kick"), append(v.Items, number(4)) },
	} {
		body := full()
		change(&body)
		nothingIn(t, body)
	}
	for _, v := range jsontest.Different() {
		body := full()
		body.Keys, body.Items = append(body.Keys, "other"), append(body.Items, v)
		if json.Check(v) != api.OK {
			nothingIn(t, body)
		} else {
			memberIs(t, body, api.MemberJoin)
		}
	}
}

// A body that is as deep, and has as many values, as there may be; and more.
func TestMostOfBody(t *testing.T) {
	for _, x := range []struct {
		other api.Json
		is    bool
	}{
		{jsontest.NestedLists(7), true},
		{jsontest.NestedLists(8), false},
		{jsontest.NestedLists(1 << 20), false},
		{list(slices.Repeat([]api.Json{null()}, 400-json.Count(full())-1)...), true},
		{list(slices.Repeat([]api.Json{null()}, 400-json.Count(full()))...), false},
		{list(slices.Repeat([]api.Json{null()}, 1<<20)...), false},
	} {
		body := full()
		body.Keys, body.Items = append(body.Keys, "other"), append(body.Items, x.other)
		_, member := content.MemberOf(body)
		_, levels := content.LevelsOf(body)
		_, rule := content.RuleOf(body)
		_, acl := content.AclOf(body)
		_, creator := content.CreatorOf(body)
		if member != x.is || levels != x.is || rule != x.is || acl != x.is || creator != x.is {
			t.Errorf("%v %v %v %v %v, want %v", member, levels, rule, acl, creator, x.is)
		}
	}
}

// T7: a body that is too deep, or contains itself, overflows no stack.
func TestEndless(t *testing.T) {
	defer debug.SetMaxStack(debug.SetMaxStack(1 << 16))
	for _, key := range []string{"other", "users", "events", "allow", "entity", "membership", "creator"} {
		for _, kind := range []int{api.JsonObject, api.JsonList} {
			loop := object(key, null())
			loop.Items[0] = api.Json{Kind: kind, Items: loop.Items}
			if _, is := content.LevelsOf(loop); is {
				t.Error(key)
			}
			deep := object(key, jsontest.NestedLists(1<<16))
			_, member := content.MemberOf(deep)
			_, rule := content.RuleOf(deep)
			_, acl := content.AclOf(deep)
			_, creator := content.CreatorOf(loop)
			if member || rule || acl || creator {
				t.Error(key)
			}
		}
	}
}

// P6.1: memberships.
func TestMemberOf(t *testing.T) {
	for name, want := range map[string]int{
		"invite": api.MemberInvite, "join": api.MemberJoin, "leave": api.MemberLeave, "ban": api.MemberBan,
		"": 0, "knock": 0, "none": 0, "Ban": 0, "ban ": 0, " ban": 0, "ba": 0, "bans": 0, "joinleave": 0, "1": 0, "4": 0, "\x00": 0,
	} {
		memberIs(t, object("membership", text(name)), want)
		memberIs(t, object("Membership", text(name)), 0)
	}
	for _, v := range []api.Json{null(), truth(1), number(4), list(text("ban")), object("membership", text("ban")), object("ban", text("ban"))} {
		memberIs(t, object("membership", v), 0)
	}
	memberIs(t, object(""), 0)
}

// P6.1: creators.
func TestCreatorOf(t *testing.T) {
	for _, user := range []string{"@a:b", "@a=/+_.-:B.org:80", "@" + strings.Repeat("a", 252) + ":s"} {
		creatorIs(t, object("creator", text(user)), user)
		creatorIs(t, object("Creator", text(user)), "")
	}
	for _, s := range []string{"", "@", "@a", "a:b", "@A:b", "!a:b", "$a", "@a:", "b", "@a:b ", "@" + strings.Repeat("a", 253) + ":s"} {
		creatorIs(t, object("creator", text(s)), "")
	}
	for _, v := range []api.Json{null(), truth(1), number(4), list(text("@a:b")), object("creator", text("@a:b"))} {
		creatorIs(t, object("creator", v), "")
	}
	creatorIs(t, object(""), "")
}

// P6.1: the texts of a rule, and how long each may be.
func TestRuleOf(t *testing.T) {
	some := func(n int) string { return strings.Repeat("a", n) }
	for _, x := range []struct {
		r  api.RuleBody
		is bool
	}{
		{api.RuleBody{Entity: "e", Recommendation: "r"}, true},
		{api.RuleBody{Entity: " ", Recommendation: "\x00", Reason: "\n"}, true},
		{api.RuleBody{Entity: some(255), Recommendation: some(128), Reason: some(255)}, true},
		{api.RuleBody{Entity: strings.Repeat("é", 127), Recommendation: strings.Repeat("é", 64), Reason: strings.Repeat("é", 127)}, true},
		{api.RuleBody{Entity: some(256), Recommendation: "r"}, false},
		{api.RuleBody{Entity: "e", Recommendation: some(129)}, false},
		{api.RuleBody{Entity: "e", Recommendation: "r", Reason: some(256)}, false},
		{api.RuleBody{Entity: strings.Repeat("é", 128), Recommendation: "r"}, false},
		{api.RuleBody{Entity: "e", Recommendation: strings.Repeat("é", 65)}, false},
		{api.RuleBody{Entity: "e", Recommendation: "r", Reason: strings.Repeat("é", 128)}, false},
		{api.RuleBody{Recommendation: "r"}, false},
		{api.RuleBody{Entity: "e"}, false},
		{api.RuleBody{Reason: "r"}, false},
		{api.RuleBody{}, false},
	} {
		want := x.r
		if !x.is {
			want = api.RuleBody{}
		}
		ruleIs(t, object("reason recommendation entity", text(x.r.Reason), text(x.r.Recommendation), text(x.r.Entity)), want, x.is)
	}
}

// P6.1: what a rule needs, and what is no text.
func TestRuleOfKinds(t *testing.T) {
	plain := api.RuleBody{Entity: "e", Recommendation: "r"}
	for _, v := range []api.Json{null(), truth(1), number(4), list(), list(text("a")), object(""), object("reason", text("a"))} {
		ruleIs(t, object("entity recommendation reason", text("e"), text("r"), v), plain, true)
		ruleIs(t, object("entity recommendation reason", text("e"), v, text("s")), api.RuleBody{}, false)
		ruleIs(t, object("entity recommendation reason", v, text("r"), text("s")), api.RuleBody{}, false)
	}
	ruleIs(t, object("entity recommendation", text("e"), text("r")), plain, true)
	ruleIs(t, object("entity reason", text("e"), text("r")), api.RuleBody{}, false)
	ruleIs(t, object("recommendation reason", text("e"), text("r")), api.RuleBody{}, false)
	ruleIs(t, object("Entity Recommendation", text("e"), text("r")), api.RuleBody{}, false)
}

// P6.1: the lists of an Acl.
func TestAclOf(t *testing.T) {
	long := strings.Repeat("a", 255)
	for s, want := range map[string]api.Acl{
		`{}`:                           {},
		`{"allow":[],"deny":[]}`:       {},
		`{"allow":["*"]}`:              {Allow: []string{"*"}},
		`{"deny":["b","a","b",""]}`:    {Deny: []string{"b", "a", "b", ""}},
		`{"deny":["x"],"allow":["*"]}`: {Allow: []string{"*"}, Deny: []string{"x"}},
		`{"deny":["` + long + `"]}`:    {Deny: []string{long}},
		`{"Deny":1,"Allow":1}`:         {},
	} {
		aclIs(t, parse(s), want, true)
	}
	for _, bad := range []string{`null`, `true`, `0`, `"*"`, `""`, `{}`, `{"*":"*"}`, `[null]`, `["*",1]`, `[["*"]]`, `["*",{}]`, `["` + long + `a"]`, `["a","` + strings.Repeat("é", 128) + `"]`} {
		aclIs(t, parse(`{"allow":`+bad+`}`), api.Acl{}, false)
		aclIs(t, parse(`{"deny":`+bad+`}`), api.Acl{}, false)
		aclIs(t, parse(`{"allow":["*"],"deny":`+bad+`}`), api.Acl{}, false)
		aclIs(t, parse(`{"allow":`+bad+`,"deny":["*"]}`), api.Acl{}, false)
	}
}

// P6.2: each number of the levels, or its default.
func TestLevelsOfNumbers(t *testing.T) {
	for key, set := range map[string]func(l *api.Levels, n int64){
		"users_default":  func(l *api.Levels, n int64) { l.UsersDefault = n },
		"events_default": func(l *api.Levels, n int64) { l.EventsDefault = n },
		"state_default":  func(l *api.Levels, n int64) { l.StateDefault = n },
		"ban":            func(l *api.Levels, n int64) { l.Ban = n },
		"kick":           func(l *api.Levels, n int64) { l.Kick = n },
		"redact":         func(l *api.Levels, n int64) { l.Redact = n },
		"invite":         func(l *api.Levels, n int64) { l.Invite = n },
	} {
		for _, n := range []int64{0, 1, -1, 49, 50, 100, most, -most} {
			want := initially()
			set(&want, n)
			levelsAre(t, object(key, number(n)), want, true)
			levelsAre(t, object(strings.ToUpper(key), number(n)), initially(), true)
		}
		for _, v := range []api.Json{null(), truth(0), truth(1), text(""), text("50"), list(), list(number(1)), object(""), number(most + 1), number(-most - 1)} {
			levelsAre(t, object(key, v), api.Levels{}, false)
			levelsAre(t, object("state users_default_ "+key, null(), number(1), v), api.Levels{}, false)
		}
	}
}

// P6.2: the levels of users and of types, sorted.
func TestLevelsOfLists(t *testing.T) {
	for _, x := range []struct {
		s, users, events string
	}{
		{`{"users":{}}`, "", ""},
		{`{"events":{}}`, "", ""},
		{`{"users":{"@b:s":1,"@a:s":-2,"@a:S":3,"@a.:s":4}}`, "@a.:s 4 @a:S 3 @a:s -2 @b:s 1", ""},
		{`{"events":{"b":1,"é":5,"a":-2,"A":3,"aa":4}}`, "", "A 3 a -2 aa 4 b 1 é 5"},
		{`{"events":{"@b:s":9007199254740991},"users":{"@c:s":-9007199254740991}}`, "@c:s -9007199254740991", "@b:s 9007199254740991"},
	} {
		want := initially()
		for pair := range slices.Chunk(strings.Fields(x.users), 2) {
			want.Users = append(want.Users, api.UserLevel{User: pair[0], N: atoi(pair[1])})
		}
		for pair := range slices.Chunk(strings.Fields(x.events), 2) {
			want.Events = append(want.Events, api.TypeLevel{Type: pair[0], N: atoi(pair[1])})
		}
		levelsAre(t, parse(x.s), want, true)
	}
	want := initially()
	want.Events = []api.TypeLevel{{Type: "", N: 2}, {Type: strings.Repeat("t", 1<<16), N: 1}}
	levelsAre(t, object("events", api.Json{Kind: api.JsonObject, Keys: []string{want.Events[1].Type, ""}, Items: []api.Json{number(1), number(2)}}), want, true)
}

func atoi(s string) int64 {
	n, err := strconv.ParseInt(s, 10, 64)
	if err != nil {
		panic(err)
	}
	return n
}

// P6.2: what is not an object from users, or texts, to numbers.
func TestLevelsOfOtherLists(t *testing.T) {
	for _, bad := range []string{`null`, `false`, `0`, `""`, `[]`, `[1]`, `{"@a:s":null}`, `{"@a:s":"1"}`, `{"@a:s":[]}`, `{"@a:s":{}}`, `{"@a:s":1,"@b:s":true}`, `{"@b:s":true,"@a:s":1}`} {
		levelsAre(t, parse(`{"users":`+bad+`}`), api.Levels{}, false)
		levelsAre(t, parse(`{"events":`+bad+`}`), api.Levels{}, false)
		levelsAre(t, parse(`{"events":{"a":1},"users":`+bad+`}`), api.Levels{}, false)
		levelsAre(t, parse(`{"events":`+bad+`,"ban":1,"users":{"@a:s":1}}`), api.Levels{}, false)
	}
	for _, key := range []string{"", "a", "@a", "@A:s", "!a:s", "$a", "s", "@a:s ", "@" + strings.Repeat("a", 253) + ":s"} {
		levelsAre(t, parse(`{"users":{"`+key+`":1}}`), api.Levels{}, false)
		levelsAre(t, parse(`{"users":{"@a:s":1,"`+key+`":1}}`), api.Levels{}, false)
		levelsAre(t, parse(`{"users":{"`+key+`":1,"@z:s":1}}`), api.Levels{}, false)
	}
}

// Rule 3: what was read is new memory, and the body stays as it is.
func TestReadIsNew(t *testing.T) {
	body := jsontest.Roomy(full())
	before := jsontest.ShowAll(body)
	for range 2 {
		content.MemberOf(body)
		content.CreatorOf(body)
		content.RuleOf(body)
		a, _ := content.AclOf(body)
		l, _ := content.LevelsOf(body)
		for _, texts := range [][]string{a.Allow, a.Deny} {
			texts = texts[:cap(texts)]
			for i := range texts {
				texts[i] = texts[i] + "changed"
			}
		}
		clear(l.Users[:cap(l.Users)])
		clear(l.Events[:cap(l.Events)])
		if jsontest.ShowAll(body) != before || a.Allow[0] != "*changed" || a.Deny[0] != "xchanged" || a.Deny[1] != "ychanged" {
			t.Errorf("%s, %q", jsontest.ShowAll(body), a)
		}
	}
}

// Rule 3: not even the bytes of strings are kept.
func TestReadKeepsNoString(t *testing.T) {
	body := full()
	creator, _ := content.CreatorOf(body)
	r, _ := content.RuleOf(body)
	a, _ := content.AclOf(body)
	l, _ := content.LevelsOf(body)
	got := []string{creator, r.Entity, r.Recommendation, r.Reason, a.Allow[0], a.Deny[0], a.Deny[1], l.Users[0].User, l.Users[1].User, l.Events[0].Type}
	for _, s := range got {
		if holds(body, s) {
			t.Errorf("%q is kept", s)
		}
	}
}

// holds reports whether v has a key or a text with the same first byte in memory as s.
func holds(v api.Json, s string) bool {
	for _, x := range append([]string{v.Text}, v.Keys...) {
		if x != "" && unsafe.StringData(x) == unsafe.StringData(s) {
			return true
		}
	}
	return slices.ContainsFunc(v.Items, func(x api.Json) bool { return holds(x, s) })
}
